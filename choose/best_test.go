package choose_test

import (
	"slices"
	"testing"

	"pleat/api"
)

func TestNothingPays(t *testing.T) {
	noBest(t, "one word", text(end()), api.OK)
	noBest(t, "all unlike", text(outs(0, 50), end()), api.OK)
	noBest(t, "blocks of one word", text(halts(50)), api.OK)
	noBest(t, "two, twice", text(outs(0, 2), outs(0, 2), end()), api.OK)
	noBest(t, "two, three times", text(outs(0, 2), outs(0, 2), outs(0, 2), end()), api.OK)
	noBest(t, "three, twice", text(outs(0, 3), outs(0, 3), end()), api.OK)
	noBest(t, "two to a halt, twice", text(outs(0, 1), end(), outs(0, 1), end()), api.OK)
	noBest(t, "two to a call, twice", text(outs(0, 1), row(call(1)), outs(0, 1), row(call(1), halt)), api.OK)
	noBest(t, "overlapping itself", text(slices.Repeat(outs(0, 1), 7), end()), api.OK)
	noBest(t, "long, but overlapping", text(outs(0, 5), outs(0, 3), end()), api.OK)
	noBest(t, "six, twice, the link register live", text(row(call(2), halt), outs(0, 6), row(in(1)), outs(0, 6), row(goTo(15))), api.OK)
	noBest(t, "three, often, the link register live", text(row(call(2), halt), slices.Repeat(join(outs(0, 3), row(zero(1, 0))), 20), row(goTo(15))), api.OK)
	noBest(t, "alone", text(slices.Repeat(row(zero(1, 0)), 30), end()), api.OK)
}

func TestOnePays(t *testing.T) {
	best(t, "four, twice", text(outs(0, 4), outs(0, 4), end()), fold(4, 1, dead(0), dead(4)))
	best(t, "three, three times", text(outs(0, 3), row(in(1)), outs(0, 3), row(in(2)), outs(0, 3), end()), fold(3, 2, dead(0), dead(4), dead(8)))
	best(t, "two, four times", text(outs(0, 2), row(in(1)), outs(0, 2), row(in(2)), outs(0, 2), row(in(3)), outs(0, 2), end()), fold(2, 1, dead(0), dead(3), dead(6), dead(9)))
	best(t, "two to a halt, three times", text(outs(0, 1), end(), outs(0, 1), end(), outs(0, 1), end()), fold(2, 1, tail(0), tail(2), tail(4)))
	best(t, "eight, twice, the link register live", text(row(call(2), halt), outs(0, 8), row(in(1)), outs(0, 8), row(goTo(15))), fold(8, 1, spare(2, 0), spare(11, 0)))
}

// TestTheGainDecides has short ones that pay more than long ones, late ones that pay more than those ahead.
func TestTheGainDecides(t *testing.T) {
	short := slices.Repeat(join(ports(2, 0, 2), row(zero(3, 0))), 12)
	best(t, "a short one, often", text(outs(0, 8), row(in(3)), outs(0, 8), row(in(4)), short, end()), fold(2, 9, every(18, 3, 12)...))
	long := join(ports(2, 0, 20), row(in(5)), ports(2, 0, 20))
	best(t, "a long one, twice", text(short[:15], long, end()), fold(20, 17, dead(15), dead(36)))
	best(t, "a Tail of the same length", text(outs(0, 5), row(in(3)), outs(0, 5), row(in(4)), ports(2, 0, 4), end(), ports(2, 0, 4), end()), fold(5, 3, tail(12), tail(17)))
	// What goes on to the end pays more than what stands at three places, and ends ahead of it.
	best(t, "a longer one at fewer places", text(outs(0, 9), end(), outs(0, 9), end(), outs(0, 3), row(trap)), fold(10, 8, tail(0), tail(10)))
	best(t, "a shorter one at more places", text(outs(0, 6), end(), outs(0, 6), end(), outs(0, 5), row(trap), outs(0, 5), row(trap)), fold(5, 10, dead(0), dead(7), dead(14), dead(20)))
}

// every tells Dead spots, as many, from the first one on.
func every(first, step, many int) []api.Spot {
	var l []api.Spot
	for k := range many {
		l = append(l, dead(first+k*step))
	}
	return l
}

// TestTheLengthDecides has folds that pay the same, the shorter one first.
func TestTheLengthDecides(t *testing.T) {
	three := join(outs(0, 3), row(in(3)), outs(0, 3), row(in(4)), outs(0, 3), row(in(5)))
	five := join(ports(2, 0, 5), row(in(6)), ports(2, 0, 5))
	best(t, "three times three, twice five", text(three, five, end()), fold(5, 2, dead(12), dead(18)))
	best(t, "twice five, three times three", text(five, row(in(7)), three, end()), fold(5, 2, dead(0), dead(6)))
	four := join(outs(0, 4), row(in(3)), outs(0, 4), row(in(4)))
	toHalt := join(ports(2, 0, 2), end(), ports(2, 0, 2), end())
	best(t, "twice four, twice three to a halt", text(four, toHalt), fold(4, 1, dead(0), dead(5)))
	best(t, "twice three to a halt, twice four", text(toHalt, four, end()), fold(4, 1, dead(6), dead(11)))
	// Of one word two, four and more may be laid together: the longer ones are fewer.
	best(t, "one word, eight times", text(slices.Repeat(outs(0, 1), 8), end()), fold(4, 1, dead(0), dead(4)))
	best(t, "one word, nine times", text(slices.Repeat(outs(0, 1), 9), end()), fold(3, 2, dead(0), dead(3), dead(6)))
	best(t, "one word, ten times", text(slices.Repeat(outs(0, 1), 10), end()), fold(5, 2, dead(0), dead(5)))
	best(t, "one word, thirteen times", text(slices.Repeat(outs(0, 1), 13), end()), fold(4, 4, dead(0), dead(4), dead(8)))
	// Four stand at one place more than what they are the beginning of.
	eight := join(outs(0, 8), row(in(3)), outs(0, 8), row(in(4)), outs(0, 4), end())
	best(t, "its own beginning", text(eight), fold(8, 5, dead(0), dead(9)))
	six := join(outs(0, 6), row(in(3)), outs(0, 6), row(in(4)), outs(0, 4), end())
	best(t, "its own beginning pays more", text(six), fold(4, 4, dead(0), dead(7), dead(14)))
	seven := join(outs(0, 7), row(in(3)), outs(0, 7), row(in(4)), outs(0, 4), end())
	best(t, "its own beginning pays the same", text(seven), fold(7, 4, dead(0), dead(8)))
}

// TestTheFirstPlaceDecides has folds of one length that pay the same.
func TestTheFirstPlaceDecides(t *testing.T) {
	a, b := outs(0, 6), ports(2, 0, 6)
	parted := func(l ...[]uint32) api.Image {
		var words []uint32
		for k, part := range l {
			words = append(append(words, part...), set(9, k))
		}
		return text(words, end())
	}
	best(t, "a a b b", parted(a, a, b, b), fold(6, 3, dead(0), dead(7)))
	best(t, "b b a a", parted(b, b, a, a), fold(6, 3, dead(0), dead(7)))
	best(t, "a b a b", parted(a, b, a, b), fold(6, 3, dead(0), dead(14)))
	best(t, "a b b a", parted(a, b, b, a), fold(6, 3, dead(0), dead(21)))
	best(t, "its words come first in what stands once", parted(ports(2, 0, 3), a, a, b, b), fold(6, 3, dead(4), dead(11)))
	// The first place of a's is no spot: so b begins ahead.
	x := parted(a, b, b, a, a)
	x.Entry = 3
	best(t, "a label in the first", x, fold(6, 3, dead(7), dead(14)))
	best(t, "four in a row of one word and of three", text(row(in(7)), outs(0, 4), row(in(8)), outs(0, 4), ports(2, 0, 4), row(in(9)), ports(2, 0, 4), end()), fold(4, 1, dead(1), dead(6)))
	best(t, "Tail and Thunk", text(outs(0, 3), row(call(9)), outs(0, 3), row(call(9), in(1)), ports(2, 0, 3), end(), ports(2, 0, 3), end()), fold(4, 2, thunk(0), thunk(4)))
	best(t, "Thunk and Tail", text(ports(2, 0, 3), end(), ports(2, 0, 3), end(), outs(0, 3), row(call(9)), outs(0, 3), row(call(9), halt)), fold(4, 2, tail(0), tail(4)))
}

// TestRegistersToSpare has long sequences behind which the link register is live, of which the longest leave no register.
func TestRegistersToSpare(t *testing.T) {
	var all []uint32
	for r := range uint32(15) {
		all = append(all, set(r, 7))
	}
	back := slices.Clone(all)
	slices.Reverse(back)
	function := func(l ...[]uint32) api.Image {
		return text(row(call(2), halt), join(l...), row(goTo(15)))
	}
	best(t, "all but one are written", function(all, row(in(0)), all, row(in(1))), fold(14, 7, spare(2, 14), spare(18, 14)))
	best(t, "all but one are written, the other way round", function(back, row(in(14)), back, row(in(13))), fold(14, 7, spare(2, 0), spare(18, 0)))
	best(t, "what is written behind them is read", function(all, row(in(0)), all, row(in(1), out(14, 0))), fold(14, 7, spare(2, 14), spare(18, 14)))
	best(t, "what is not written behind the one is read", function(all, row(in(0)), all[:14], row(out(14, 0))), fold(13, 6, spare(2, 13), spare(18, 13)))
	noBest(t, "all are read ahead of their being written", function(readsAll(), readsAll(), readsAll()), api.OK)
	best(t, "one is dead behind all", function(readsAll()[:9], row(in(0)), readsAll()[:9]), fold(9, 2, spare(2, 9), spare(12, 9)))
}
