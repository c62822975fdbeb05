package class_test

import (
	"fmt"
	"math/rand"
	"slices"
	"testing"

	"pleat/api"
)

// ways are in how many ways a register can be taken, as takes tells them.
const ways = 9

// takes tells words of a sequence, and words behind it, by which that register is none to spare.
func takes(way int, r uint32) (what string, inside, behind []uint32) {
	switch way {
	case 0:
		return "read behind it", nil, row(out(r, 0))
	case 1:
		return "read behind it, and then written", nil, row(add(r, r, r))
	case 2:
		return "read within", row(out(r, 0)), nil
	case 3:
		return "read within as a B", row(store(r, r, 0)), nil
	case 4:
		return "written within", row(set(r, 1)), nil
	case 5:
		return "written, and then read within", row(in(r), out(r, 0)), nil
	case 6:
		return "read, and then written within", row(out(r, 0), in(r)), nil
	case 7:
		return "read within, and written behind it", row(out(r, 0)), row(set(r, 0))
	}
	return "written within, and read behind it", row(place(r, 0)), row(out(r, 0))
}

// around tells an image whose places from 2 on are a sequence of four and more, behind which the link register is live, and how long that is. No word touches a register but those that are handed in.
func around(inside, behind []uint32, fill uint32) (x api.Image, n int) {
	sequence := slices.Clone(inside)
	for len(sequence) < 4 {
		sequence = append(sequence, fill)
	}
	return text(slices.Concat(row(call(2), halt), sequence, behind, row(goTo(15)))...), len(sequence)
}

// TestEachRegisterIsTheLeast has each register as the least one that is free, those below it being taken in each way, and those above it too, or not.
func TestEachRegisterIsTheLeast(t *testing.T) {
	for way := range ways {
		for r := range uint32(15) {
			for _, above := range []bool{false, true} {
				var inside, behind []uint32
				what := ""
				for other := range uint32(15) {
					if other < r || other > r && above {
						w, i, b := takes(way, other)
						what, inside, behind = w, append(inside, i...), append(behind, b...)
					}
				}
				fill := (r + 1) % 15
				x, n := around(inside, behind, out(fill, 0))
				is(t, fmt.Sprint("all below ", r, " are ", what), x, n, spare(2, r))
			}
		}
	}
}

// beside tells a word that reads a register which is neither of these.
func beside(r, other uint32) uint32 {
	fill := uint32(0)
	for fill == r || fill == other {
		fill++
	}
	return out(fill, 0)
}

// TestEachWayForEachRegister has one register taken in each way, all others but one being read behind the sequence.
func TestEachWayForEachRegister(t *testing.T) {
	for way := range ways {
		for r := range uint32(15) {
			for left := range uint32(15) {
				if left == r {
					continue
				}
				what, inside, behind := takes(way, r)
				for other := range uint32(15) {
					if other != r && other != left {
						behind = append(behind, out(other, 0))
					}
				}
				x, n := around(inside, behind, beside(r, left))
				is(t, fmt.Sprint(r, " is ", what, ", ", left, " is left"), x, n, spare(2, left))
			}
		}
	}
}

// TestNoRegisterIsLeft has all registers below the link register taken, in one way or in tossed ones; and all but one.
func TestNoRegisterIsLeft(t *testing.T) {
	r := rand.New(rand.NewSource(194))
	for round := range 500 {
		var inside, behind []uint32
		left := uint32(round % 16) // 15: none
		for reg := range uint32(15) {
			way := round / 16
			if way >= ways {
				way = r.Intn(ways)
			}
			if _, i, b := takes(way, reg); reg != left {
				inside, behind = append(inside, i...), append(behind, b...)
			}
		}
		x, n := around(inside, behind, beside(left, left))
		if left < 15 {
			is(t, "one is left", x, n, spare(2, left))
			continue
		}
		none(t, "all are taken", x, n, 2)
		are(t, "all are taken", x, stands(n, 2))
		x.Text[len(x.Text)-1] = halt
		is(t, "all are taken, but the link register is dead", x, n, dead(2))
	}
}

// TestWhatIsFree has registers that are touched, but not by the sequence, and are dead behind it.
func TestWhatIsFree(t *testing.T) {
	words := row(in(1), in(2), in(3), in(4))
	for what, behind := range map[string][]uint32{
		"not touched":                        {},
		"written behind it":                  {set(0, 1)},
		"written behind it, and then read":   {set(0, 1), out(0, 0)},
		"written behind it by what it loads": {load(0, 1, 0), out(0, 0)},
	} {
		x := text(slices.Concat(row(call(2), halt), words, behind, row(goTo(15)))...)
		is(t, what, x, 4, spare(2, 0))
	}
	x := text(slices.Concat(row(call(2), halt), row(out(0, 0)), words, row(goTo(15)))...)
	is(t, "read ahead of it", x, 4, spare(3, 0))
	is(t, "read by a longer one", x, 5, spare(2, 5))
	x = text(slices.Concat(row(call(2), halt), row(set(0, 1)), words, row(goTo(15)))...)
	is(t, "written ahead of it", x, 4, spare(3, 0))
	is(t, "written by a longer one", x, 5, spare(2, 5))
	x = text(slices.Concat(row(call(2), halt), words, row(zero(5, 9), goTo(15), trap, out(0, 0), goTo(15)))...)
	is(t, "read on one of two ways", x, 4, spare(2, 6))
}

// TestNeverTheLinkRegister has it as the only one that nobody touches but the end.
func TestNeverTheLinkRegister(t *testing.T) {
	for _, end := range [][]uint32{{goTo(15)}, {calls(15), halt}, {out(15, 0), halt}, {move(15, 15), goTo(15)}} {
		x := text(slices.Concat(row(in(1), in(2), in(3), in(4)), readsAll(15)[:15], end)...)
		none(t, "all but the link register are live", x, 4, 0)
	}
}

// TestThreeAreTooFew has three words and four of each kind, with all registers free.
func TestThreeAreTooFew(t *testing.T) {
	for _, w := range row(in(9), out(9, 0), set(9, 0), add(9, 9, 9), store(9, 9, 0), place(9, 0)) {
		x := text(w, w, w, w, w, goTo(15))
		none(t, "two", x, 2, 3)
		none(t, "three", x, 3, 2)
		is(t, "four", x, 4, spare(1, 0))
		is(t, "five", x, 5, spare(0, 0))
	}
}
