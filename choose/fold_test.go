package choose_test

import (
	"slices"
	"testing"

	"pleat/api"
)

func TestGainsBelowAndAbove(t *testing.T) {
	two := text(outs(0, 2), outs(0, 2), outs(0, 2), outs(0, 2), outs(0, 2), end())
	folds(t, "one of two", two, stands(2, 0), fold(2, -2, dead(0)))
	folds(t, "two of two", two, stands(2, 0, 2), fold(2, -1, dead(0), dead(2)))
	folds(t, "three of two", two, stands(2, 0, 2, 4), fold(2, 0, dead(0), dead(2), dead(4)))
	folds(t, "four of two", two, stands(2, 0, 2, 4, 6), fold(2, 1, dead(0), dead(2), dead(4), dead(6)))
	folds(t, "five of two", two, stands(2, 0, 2, 4, 6, 8), fold(2, 2, dead(0), dead(2), dead(4), dead(6), dead(8)))
	folds(t, "some of two", two, stands(2, 2, 6), fold(2, -1, dead(2), dead(6)))
	folds(t, "two of four", two, stands(4, 0, 4), fold(4, 1, dead(0), dead(4)))
	folds(t, "two to the end", text(outs(0, 2), end(), outs(0, 2), end()), stands(3, 0, 3), fold(3, 1, tail(0), tail(3)))
	folds(t, "one to the end", text(outs(0, 2), end()), stands(3, 0), fold(3, -1, tail(0)))
}

// TestSpotsThatLieApart has sequences whose places overlap: the first is kept, and of the others what overlaps none that is.
func TestSpotsThatLieApart(t *testing.T) {
	nine := text(slices.Repeat(outs(0, 1), 9), end())
	folds(t, "two of one word", nine, stands(2, 0, 1, 2, 3, 4, 5, 6, 7), fold(2, 1, dead(0), dead(2), dead(4), dead(6)))
	folds(t, "two of one word, from 1 on", nine, stands(2, 1, 2, 4, 5, 7), fold(2, 0, dead(1), dead(4), dead(7)))
	folds(t, "three of one word", nine, stands(3, 0, 1, 2, 3, 4, 5, 6), fold(3, 2, dead(0), dead(3), dead(6)))
	folds(t, "eight of one word", nine, stands(8, 0, 1), fold(8, -2, dead(0)))
	folds(t, "four to and fro", text(row(out(1, 0), out(1, 1), out(1, 0), out(1, 1), out(1, 0), out(1, 1), halt)), stands(4, 0, 2), fold(4, -2, dead(0)))
	folds(t, "as far apart as they are long", text(row(out(1, 0), out(1, 1), out(1, 0), out(1, 1), out(1, 0), out(1, 1), halt)), stands(2, 0, 2, 4), fold(2, 0, dead(0), dead(2), dead(4)))
}

// TestPlacesThatAreNoSpot has sequences some of whose places are no spot: a place that is none keeps no other one away.
func TestPlacesThatAreNoSpot(t *testing.T) {
	x := api.Image{Text: join(slices.Repeat(outs(0, 1), 9), end()), Entry: 1}
	folds(t, "a label in the first", x, stands(2, 0, 1, 2, 3, 4, 5, 6, 7), fold(2, 1, dead(1), dead(3), dead(5), dead(7)))
	x.Entry = 3
	folds(t, "a label in one", x, stands(2, 0, 1, 2, 3, 4, 5, 6, 7), fold(2, 1, dead(0), dead(3), dead(5), dead(7)))
	folds(t, "a label in all", x, stands(4, 0, 1, 2), api.Fold{})
	folds(t, "at the one place", x, stands(4, 2), api.Fold{})
	function := text(outs(0, 3), row(halt), outs(0, 3), row(goTo(15)), outs(0, 3), row(trap))
	folds(t, "live behind one", function, stands(3, 0, 4, 8), fold(3, 0, dead(0), dead(8)))
	folds(t, "live behind the one", function, stands(3, 4), api.Fold{})
	folds(t, "live behind one, at some", function, stands(3, 4, 8), fold(3, -2, dead(8)))
}

// TestClasses has a fold of each class, and one of two.
func TestClasses(t *testing.T) {
	for _, last := range row(trap, jump(0), goTo(2), goTo(15), halt) {
		x := text(outs(0, 3), row(last), outs(0, 3), row(last))
		folds(t, "to what goes away", x, stands(4, 0, 4), fold(4, 2, tail(0), tail(4)))
		best(t, "to what goes away", x, fold(4, 2, tail(0), tail(4)))
	}
	for _, last := range row(call(8), call(0), calls(2)) {
		x := text(outs(0, 3), row(last), outs(0, 3), row(last), end())
		folds(t, "to a call", x, stands(4, 0, 4), fold(4, 2, thunk(0), thunk(4)))
		best(t, "to a call", x, fold(4, 2, thunk(0), thunk(4)))
	}
	// Behind the first one the link register is dead, behind the others it is live, and 2 is read behind the last one.
	x := text(outs(0, 7), row(halt), outs(0, 7), row(in(3), set(0, 1), in(2), in(0)), outs(0, 7), row(store(0, 2), goTo(15)))
	folds(t, "dead and spare", x, stands(7, 0, 8, 19), fold(7, 6, dead(0), spare(8, 0), spare(19, 3)))
	best(t, "dead and spare", x, fold(7, 6, dead(0), spare(8, 0), spare(19, 3)))
	x = text(outs(0, 4), row(goTo(15)), outs(0, 4), row(trap))
	folds(t, "spare and dead", x, stands(4, 0, 5), fold(4, -1, spare(0, 0), dead(5)))
}
