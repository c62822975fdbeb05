package class_test

import (
	"fmt"
	"math"
	"slices"
	"testing"

	"pleat/api"
)

// edges are numbers at which a place or a length of a text of that size may be wrong.
func edges(size int) []int {
	l := []int{math.MinInt, math.MinInt + 1, math.MinInt + size, -size, -2, math.MaxInt - size, math.MaxInt - 2, math.MaxInt - 1, math.MaxInt}
	for k := -1; k <= size+2; k++ {
		l = append(l, k)
	}
	return l
}

// inside tells whether the places from at to at + n - 1 are all of a text of that size, reckoned so that nothing goes round.
func inside(size, n, at int) bool {
	return 0 <= at && at < size && 0 <= n && n <= size && at+n-1 < size
}

// TestWhatIsNoSequence has each n with each place, those too whose sum goes round.
func TestWhatIsNoSequence(t *testing.T) {
	for _, words := range [][]uint32{
		{halt}, {goTo(15)}, {out(1, 0), halt}, {out(1, 0), out(1, 0), goTo(15)}, {zero(1, 0), call(0), halt}, {1, 1, 1, trap}, append(slices.Repeat(row(set(1, 5)), 6), halt),
	} {
		x, size := text(words...), len(words)
		p := plainOf(x)
		for _, n := range edges(size) {
			for _, at := range edges(size) {
				if n < 2 || !inside(size, n, at) {
					noSpot(t, "no sequence", x, n, at, api.ErrArg)
					noSpots(t, "no sequence", x, stands(n, at), api.ErrFold)
					continue
				}
				p.spotAsReckoned(t, tally{}, n, at)
			}
		}
	}
}

// TestLengths has each length of one block, at its beginning and its end, and one more.
func TestLengths(t *testing.T) {
	for size := 2; size < 40; size++ {
		x := text(append(slices.Repeat(row(out(1, 0)), size-1), halt)...)
		is(t, "all of the text", x, size, tail(0))
		noSpot(t, "one more", x, size+1, 0, api.ErrArg)
		noSpot(t, "one behind", x, size, 1, api.ErrArg)
		is(t, "the last two", x, 2, tail(size-2))
		noSpot(t, "the last one, and one behind", x, 2, size-1, api.ErrArg)
		noSpot(t, "the last one alone", x, 1, size-1, api.ErrArg)
		noSpot(t, "none at the end", x, 0, size, api.ErrArg)
		for n := 2; n < size; n++ {
			is(t, "to the end", x, n, tail(size-n))
			is(t, "from the beginning", x, n, dead(0))
			is(t, "ahead of the end", x, n, dead(size-1-n))
		}
	}
}

// TestOpsAtTheEnd has each op as a sequence's last word, at a block's end or in its midst, and ahead of it.
func TestOpsAtTheEnd(t *testing.T) {
	for op, w := range opWords() {
		if taken(w).has("P") {
			w -= 5 // the place 0
		}
		what := fmt.Sprint("the op ", op)
		x := text(in(4), in(4), w, halt)
		switch k := opKinds[op]; k {
		case api.None:
			none(t, what+" at the end", x, 2, 1)
			none(t, what+" at the end of three", x, 3, 0)
		default:
			is(t, what+" at the end", x, 2, api.Spot{At: 1, Class: k})
			is(t, what+" at the end of three", x, 3, api.Spot{Class: k})
		}
		if goesOn(op) {
			is(t, what+" at the beginning", x, 2, tail(2))
			is(t, what+" in the midst", x, 3, tail(1))
			continue
		}
		none(t, what+" at the beginning", x, 2, 2)
		none(t, what+" in the midst", x, 3, 1)
		is(t, what+" behind", x, 2, dead(0))
	}
}

// TestWhatIsAlone has words that are alone at each place of a sequence, and right ahead of it and behind it.
func TestWhatIsAlone(t *testing.T) {
	for what, w := range lonely() {
		x := text(out(1, 0), out(1, 0), w, out(1, 0), out(1, 0), halt)
		for n := 2; n <= 5; n++ {
			for at := 0; at+n <= 6; at++ {
				switch {
				case at <= 2 && 2 < at+n:
					none(t, what, x, n, at)
				case at+n == 6:
					is(t, what+" ahead", x, n, tail(at))
				case at == 3:
					is(t, what+" ahead", x, n, dead(at))
				}
			}
		}
	}
}

// TestBlockEnds has sequences that end where a block does, and such as go on behind it, for each reason for which it ends.
func TestBlockEnds(t *testing.T) {
	for _, c := range []struct {
		what string
		x    api.Image
	}{
		{"the Entry", entered(3, out(1, 0), out(1, 0), out(1, 0), out(1, 0), out(1, 0), halt)},
		{"a jump's label", text(out(1, 0), out(1, 0), out(1, 0), out(1, 0), out(1, 0), halt, jump(3))},
		{"a zero's label", text(out(1, 0), out(1, 0), out(1, 0), out(1, 0), out(1, 0), halt, zero(1, 3), halt)},
		{"a call's label", text(out(1, 0), out(1, 0), out(1, 0), out(1, 0), out(1, 0), halt, call(3), halt)},
		{"a taken label", text(out(1, 0), out(1, 0), out(1, 0), out(1, 0), out(1, 0), halt, place(1, 3), halt)},
	} {
		is(t, c.what+": up to it", c.x, 2, dead(1))
		is(t, c.what+": all up to it", c.x, 3, dead(0))
		is(t, c.what+": ahead of it", c.x, 2, dead(0))
		is(t, c.what+": from it on", c.x, 2, dead(3))
		is(t, c.what+": from it on to the halt", c.x, 3, tail(3))
		none(t, c.what+": across it", c.x, 2, 2)
		none(t, c.what+": across it, by one", c.x, 4, 0)
		none(t, c.what+": across it, far", c.x, 5, 1)
		none(t, c.what+": across it, all", c.x, 6, 0)
	}
	for what, w := range map[string]uint32{"trap": trap, "halt": halt, "jump": jump(0), "go": goTo(1), "go 15": goTo(15)} {
		x := text(out(1, 0), w, out(1, 0), halt)
		is(t, what+": to it", x, 2, tail(0))
		none(t, what+": across it", x, 3, 0)
		none(t, what+": from it on", x, 2, 1)
		is(t, what+": behind it", x, 2, tail(2))
	}
	for what, w := range map[string]uint32{"call": call(0), "calls": calls(3)} {
		x := text(out(1, 0), w, out(1, 0), halt)
		is(t, what+": to it", x, 2, thunk(0))
		none(t, what+": across it", x, 3, 0)
		none(t, what+": from it on", x, 2, 1)
		is(t, what+": behind it", x, 2, tail(2))
	}
}

// TestWhereTheLinkRegisterIsDead has what may stand behind a sequence: if it is not read ahead of being written, all lengths are Dead; else the short ones are none, and the others Spare.
func TestWhereTheLinkRegisterIsDead(t *testing.T) {
	for _, c := range []struct {
		what   string
		behind []uint32 // from the place 8 on; what stands at 0 reads the link register, what stands at 1 does not
		live   bool
	}{
		{"halt", row(halt), false},
		{"trap", row(trap), false},
		{"go 15", row(goTo(15)), true},
		{"go of another one", row(goTo(1)), false},
		{"no instruction", row(1, goTo(15)), false},
		{"moved", row(move(1, 15), halt), true},
		{"moved on itself", row(move(15, 15), halt), true},
		{"stored", row(store(1, 15, 0), halt), true},
		{"stored at", row(store(15, 1, 0), halt), true},
		{"told", row(out(15, 0), halt), true},
		{"added", row(add(1, 2, 15), halt), true},
		{"loaded from", row(load(15, 15, 0), halt), true},
		{"asked by a zero", row(zero(15, 1), halt), true},
		{"called by", row(calls(15), halt), true},
		{"read later", row(out(1, 0), set(2, 1), goTo(15)), true},
		{"set", row(set(15, 1), goTo(15)), false},
		{"set later", row(out(1, 0), in(15), out(15, 0), goTo(15)), false},
		{"loaded", row(load(15, 1, 0), goTo(15)), false},
		{"a place", row(place(15, 0), goTo(15)), false},
		{"read and set", row(add(15, 15, 1), halt), true},
		{"called", row(call(0), goTo(15)), false},
		{"called by another one", row(calls(1), goTo(15)), false},
		{"a jump to where it is read", row(jump(0)), true},
		{"a jump to where it is not", row(jump(1)), false},
		{"a zero to where it is read", row(zero(1, 0), halt), true},
		{"a zero ahead of where it is read", row(zero(1, 1), goTo(15)), true},
		{"a zero, neither", row(zero(1, 1), halt), false},
		{"a go to a taken label where it is read", row(goTo(1), place(1, 0), halt), true},
		{"a go to a return site where it is read", row(goTo(1), call(1), goTo(15)), true},
		{"a go to a return site where it is not", row(goTo(1), call(0), halt), false},
		{"a jump to itself", row(jump(8)), false},
	} {
		for n := 2; n <= 6; n++ {
			words := append(row(goTo(15), trap), slices.Repeat(row(in(14)), 6)...)
			x := text(append(words, c.behind...)...)
			what := fmt.Sprint(c.what, ", behind ", n)
			switch {
			case !c.live:
				is(t, what, x, n, dead(8-n))
				is(t, what+", a label there", entered(8, x.Text...), n, dead(8-n))
			case n <= 3:
				none(t, what, x, n, 8-n)
				none(t, what+", a label there", entered(8, x.Text...), n, 8-n)
			default:
				reg := uint32(plainOf(x).free(n, 8-n))
				is(t, what, x, n, spare(8-n, reg))
				is(t, what+", a label there", entered(8, x.Text...), n, spare(8-n, reg))
			}
		}
	}
}

// TestTailAndThunkGoByTheKind has them where the link register is live, and where no register is dead.
func TestTailAndThunkGoByTheKind(t *testing.T) {
	all := readsAll(16)
	for n := 2; n <= 6; n++ {
		for _, w := range row(jump(7), goTo(15), goTo(3), trap, halt) {
			x := text(append(append(slices.Repeat(row(out(1, 0)), 6), w), all...)...)
			is(t, "all are read behind it", x, n, tail(7-n))
		}
		for _, w := range row(call(7), calls(3), calls(0)) {
			x := text(append(append(slices.Repeat(row(out(1, 0)), 6), w), all...)...)
			is(t, "all are read behind it", x, n, thunk(7-n))
		}
	}
}

// readsAll tells words that read the registers below most, one behind the other, and then a go to the link register.
func readsAll(most uint32) []uint32 {
	var words []uint32
	for r := range most {
		words = append(words, out(r, 0))
	}
	return append(words, goTo(15))
}
