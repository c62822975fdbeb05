package class_test

import (
	"fmt"
	"math"
	"slices"
	"testing"

	"pleat/api"
)

// thrice is a text in which a sequence of four stands at 0, 4 and 8, and a halt at 12.
func thrice() api.Image {
	return text(append(slices.Repeat(row(set(1, 5), add(1, 1, 1), out(1, 0), out(1, 1)), 3), halt)...)
}

func TestPlacesOfOneSequence(t *testing.T) {
	x := thrice()
	are(t, "all of them", x, stands(4, 0, 4, 8), dead(0), dead(4), dead(8))
	are(t, "two of them", x, stands(4, 0, 8), dead(0), dead(8))
	are(t, "one of them", x, stands(4, 4), dead(4))
	are(t, "shorter", x, stands(2, 2, 6, 10), dead(2), dead(6), dead(10))
	are(t, "longer, overlapping", x, stands(8, 0, 4), dead(0), dead(4))
	are(t, "one to the halt", x, stands(13, 0), tail(0))
}

func TestLengthsThatAreTooSmall(t *testing.T) {
	x := thrice()
	for _, n := range []int{1, 0, -1, -4, -8, math.MinInt, math.MinInt + 1} {
		for _, r := range []api.Repeat{stands(n), stands(n, 0), stands(n, 0, 4), stands(n, 0, 4, 8), stands(n, 4, 0), stands(n, 12), stands(n, 13), stands(n, -1), stands(n, math.MaxInt), stands(n, math.MinInt)} {
			noSpots(t, "too small a length", x, r, api.ErrFold)
		}
	}
}

func TestNoPlace(t *testing.T) {
	x := thrice()
	for _, n := range edges(13) {
		noSpots(t, "nil", x, api.Repeat{Len: n}, api.ErrFold)
		noSpots(t, "no elements", x, api.Repeat{Len: n, At: []int{}}, api.ErrFold)
		noSpots(t, "no elements, but room", x, api.Repeat{Len: n, At: []int{0, 4}[:0]}, api.ErrFold)
	}
}

func TestPlacesThatDoNotRise(t *testing.T) {
	x := thrice()
	for _, at := range [][]int{{0, 0}, {4, 4}, {4, 0}, {8, 4}, {8, 0}, {0, 4, 4}, {0, 0, 4}, {4, 0, 8}, {0, 8, 4}, {8, 4, 0}, {4, 8, 4}, {0, 4, 8, 0}, {0, 4, 8, 8}, {0, 4, 8, 4}} {
		noSpots(t, "places that do not rise", x, stands(4, at...), api.ErrFold)
		noSpots(t, "places that do not rise", x, stands(2, at...), api.ErrFold)
	}
	same := text(append(slices.Repeat(row(in(1)), 9), halt)...)
	for first := range 8 {
		for second := range 8 {
			if r := stands(2, first, second); first < second {
				are(t, "places that rise", same, r, dead(first), dead(second))
			} else {
				noSpots(t, "places that do not rise", same, r, api.ErrFold)
			}
		}
	}
}

// TestPlacesThatAreNone has a place that the text does not have, for that length, as the first, a middle and the last one.
func TestPlacesThatAreNone(t *testing.T) {
	x := thrice()
	for _, at := range [][]int{
		{-1}, {-1, 0, 4}, {-4, 0, 4}, {math.MinInt, 0, 4, 8}, {10}, {13}, {14}, {math.MaxInt}, {math.MaxInt - 3}, {10, 14},
		{0, 4, 10}, {0, 4, 13}, {0, 4, 8, 12}, {0, 4, 8, math.MaxInt}, {0, 12}, {0, 10, 13}, {0, 4, 11, 12}, {0, 4, 10, 8}, {0, -1, 8}, {0, math.MinInt, 4}, {0, math.MaxInt, 4}, {0, 4, 8, -1}, {-2, -1, 0},
	} {
		noSpots(t, "places that are none", x, stands(4, at...), api.ErrFold)
	}
	for _, n := range []int{14, 15, math.MaxInt, math.MaxInt - 1} {
		noSpots(t, "a length that the text does not have", x, stands(n, 0), api.ErrFold)
		noSpots(t, "a length that the text does not have", x, stands(n, 0, 4), api.ErrFold)
		noSpots(t, "a length that the text does not have", x, stands(n, 12), api.ErrFold)
	}
}

// TestSequencesThatAreUnlike has one word of the second or the third of three otherwise, at each of its places, in one bit.
func TestSequencesThatAreUnlike(t *testing.T) {
	for at := range 12 {
		x := thrice()
		x.Text[at] ^= 1 << 19 // the lowest bit of its A
		which := at / 4 * 4
		if which != 0 {
			noSpots(t, fmt.Sprint("the word ", at, " is otherwise"), x, stands(4, 0, which), api.ErrFold)
		}
		noSpots(t, fmt.Sprint("the word ", at, " is otherwise"), x, stands(4, 0, 4, 8), api.ErrFold)
		if which != 8 {
			noSpots(t, fmt.Sprint("the word ", at, " is otherwise"), x, stands(4, which, 8), api.ErrFold)
		}
	}
	x := text(out(1, 0), call(3), out(1, 0), call(2), halt)
	noSpots(t, "calls of other places", x, stands(2, 0, 2), api.ErrFold)
	x = text(out(1, 0), jump(3), out(1, 0), jump(2), halt)
	noSpots(t, "jumps to other places", x, stands(2, 0, 2), api.ErrFold)
	x = text(out(1, 0), place(2, 3), out(1, 0), place(2, 2), halt)
	noSpots(t, "other places", x, stands(2, 0, 2), api.ErrFold)
	x = text(out(1, 0), set(2, 3), set(1, 0), set(2, 3), halt)
	noSpots(t, "the same end", x, stands(2, 0, 2), api.ErrFold)
	are(t, "the same end", x, stands(2, 0), dead(0))
	are(t, "the same end", x, stands(2, 2), dead(2))
	noSpots(t, "one within the other", x, stands(2, 0, 1), api.ErrFold)
}

// TestSequencesWithOneThatIsAlone has words that are alike, one of which is alone, at each of the places of a sequence.
func TestSequencesWithOneThatIsAlone(t *testing.T) {
	for what, w := range lonely() {
		for k := range 4 {
			one := slices.Repeat(row(in(1)), 4)
			one[k] = w
			x := text(slices.Concat(one, one, one, row(halt))...)
			noSpots(t, what, x, stands(4, 0, 4), api.ErrFold)
			noSpots(t, what, x, stands(4, 4, 8), api.ErrFold)
			noSpots(t, what, x, stands(4, 0, 4, 8), api.ErrFold)
			for _, at := range []int{0, 4, 8} {
				are(t, what+": one place has it for itself", x, stands(4, at))
				none(t, what, x, 4, at)
			}
		}
		x := text(w, w, w, w, halt)
		noSpots(t, what+", overlapping itself", x, stands(2, 0, 1), api.ErrFold)
		noSpots(t, what+", overlapping itself", x, stands(3, 0, 1), api.ErrFold)
		are(t, what+", one place", x, stands(3, 0))
	}
}

// TestNoKind has words that are alike, none of which is alone, and one of which ends a block ahead of the last: nobody refuses them, but they are no spots.
func TestNoKind(t *testing.T) {
	for _, w := range row(trap, halt, jump(0), call(0), calls(3), goTo(1), goTo(15)) {
		x := text(in(1), w, in(1), w, in(1), w, in(1), halt)
		are(t, "two places", x, stands(3, 0, 2))
		are(t, "three places", x, stands(3, 0, 2, 4))
		are(t, "one place", x, stands(3, 2))
		are(t, "from it on", x, stands(2, 1, 3, 5))
	}
}

// TestPlacesThatOverlap has all of them told: which are kept is not asked here.
func TestPlacesThatOverlap(t *testing.T) {
	x := text(append(slices.Repeat(row(in(1)), 9), goTo(15))...)
	for n := 2; n <= 9; n++ {
		r := stands(n)
		var want []api.Spot
		for at := 0; at+n <= 9; at++ {
			r.At = append(r.At, at)
			if n > 3 {
				want = append(want, spare(at, 0))
			}
		}
		are(t, "overlapping", x, r, want...)
	}
}

// TestPlacesOfManyBlocks has one sequence in several blocks, where it is of several classes, or none.
func TestPlacesOfManyBlocks(t *testing.T) {
	four := row(in(1), in(2), in(3), in(4))
	x := text(slices.Concat(
		four, row(halt), // 0: dead
		four, row(goTo(15)), // 5: spare 0
		four, readsAll(15), // 10: no register is left
		four, readsAll(6), // 30: spare 6
		four, row(call(0)), // 41: dead
		four, row(halt, jump(48)), // 46: across a label
		four, row(jump(5)), // 52: spare 0
	)...)
	want := []api.Spot{dead(0), spare(5, 0), spare(30, 6), dead(41), spare(52, 0)}
	are(t, "all of them", x, stands(4, 0, 5, 10, 30, 41, 46, 52), want...)
	are(t, "those that have a spot", x, stands(4, 0, 5, 30, 41, 52), want...)
	are(t, "those that have none", x, stands(4, 10, 46))
	are(t, "the first of which has none", x, stands(4, 10, 30), spare(30, 6))
	are(t, "the last of which has none", x, stands(4, 0, 5, 10), dead(0), spare(5, 0))
	are(t, "three of the four", x, stands(3, 0, 5, 10, 30, 41, 46, 52), dead(0), dead(41))
	are(t, "the first two", x, stands(2, 0, 5, 10, 30, 41, 46, 52), dead(0), dead(41), dead(46))
}

func TestTailsAndThunksOfManyBlocks(t *testing.T) {
	x := text(in(1), goTo(15), out(2, 0), in(1), goTo(15), in(1), goTo(15), jump(6))
	are(t, "to a go", x, stands(2, 0, 3), tail(0), tail(3))
	are(t, "one across a label", x, stands(2, 0, 3, 5), tail(0), tail(3))
	x = text(in(1), call(0), out(2, 0), in(1), call(0), in(1), call(0), jump(6))
	are(t, "to a call", x, stands(2, 0, 3), thunk(0), thunk(3))
	are(t, "one across a label", x, stands(2, 0, 3, 5), thunk(0), thunk(3))
	x = text(in(1), calls(2), out(2, 0), in(1), calls(2), in(1), calls(2), jump(3))
	are(t, "to a calls", x, stands(2, 0, 3, 5), thunk(0), thunk(3), thunk(5))
	are(t, "ahead of it, one across a label", x, stands(3, 2))
}
