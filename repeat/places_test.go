package repeat_test

import (
	"math"
	"math/rand"
	"testing"

	"pleat/api"
)

// allPlaces holds Places of numbers around each place of a text, and around each length, against the plain reckoning.
func allPlaces(t *testing.T, x api.Image) {
	t.Helper()
	p, size := plainOf(t, x), len(x.Text)
	around := row(math.MinInt, math.MinInt+1, math.MinInt32, -size, math.MaxInt32, 1<<32, 1<<62, math.MaxInt-1, math.MaxInt)
	for n := -3; n <= size+3; n++ {
		around = append(around, n)
	}
	for _, at := range around {
		for _, length := range around {
			if at < 0 || at >= size || length < api.MinLen || length > size || !p.hasRoom(at, length) {
				refused(t, "around a text", x, at, length, api.ErrArg)
			} else {
				places(t, "each place and length", x, at, length, p.places(at, length)...)
			}
		}
	}
}

func TestPlacesOfAllLengths(t *testing.T) {
	for _, x := range samples() {
		allPlaces(t, x)
	}
	r := rand.New(rand.NewSource(182))
	for range 200 {
		allPlaces(t, tossed(r, 12))
	}
}

// TestLengthsOfOneBlock goes from below what Places takes to beyond what the block has room for.
func TestLengthsOfOneBlock(t *testing.T) {
	x := text("halt/in 1/in 2/in 1/in 2/halt/in 1/in 2/in 1/in 2/halt")
	for _, length := range row(math.MinInt, -2, -1, 0, 1, 6, 7, 10, 11, math.MaxInt-1, math.MaxInt) {
		refused(t, "too short, or without room", x, 1, length, api.ErrArg)
	}
	places(t, "the least", x, 1, 2, 1, 3, 6, 8)
	places(t, "three", x, 1, 3, 1, 6)
	places(t, "three, up to the end", x, 3, 3, 3, 8)
	places(t, "four", x, 6, 4, 1, 6)
	places(t, "all of the block", x, 1, 5, 1, 6)
	refused(t, "a block of one word", x, 0, 2, api.ErrArg)
	refused(t, "a block's last word", x, 5, 2, api.ErrArg)
	refused(t, "the text's last word", x, 10, 2, api.ErrArg)
}

func TestPlacesOfNoPlace(t *testing.T) {
	x := text("in 1/in 2/in 1/in 2/halt")
	for _, at := range row(math.MinInt, math.MinInt+1, -5, -1, 5, 6, math.MaxInt-1, math.MaxInt) {
		for _, length := range row(math.MinInt, -1, 0, 1, 2, 3, 5, math.MaxInt) {
			refused(t, "no place", x, at, length, api.ErrArg)
		}
	}
}

// TestPlacesOfOneOfAKind has sequences that stand once, with words that are alone: these stand at themselves.
func TestPlacesOfOneOfAKind(t *testing.T) {
	x := text("move 2 15/in 1/move 2 15/in 1/set 15 1/halt")
	places(t, "one that is alone, and another", x, 0, 2, 0)
	places(t, "another, and one that is alone", x, 1, 2, 1)
	places(t, "the same words", x, 2, 2, 2)
	places(t, "all of the text", x, 0, 6, 0)
}

// TestPlacesWithoutRoom has the numbers of a sequence at places from which they go on into another block: it does not stand there.
func TestPlacesWithoutRoom(t *testing.T) {
	x := entered(6, "in 1/in 2/in 3/halt/in 1/in 2/in 3/halt/in 1/in 2/in 3/halt")
	holds(t, "the Entry in the midst", x,
		stands(2, 0, 4, 8), stands(3, 0, 8), stands(4, 0, 8), stands(2, 1, 9), stands(3, 1, 9), stands(2, 2, 6, 10))
	places(t, "as far as all have room", x, 8, 2, 0, 4, 8)
	places(t, "further than one has", x, 8, 3, 0, 8)
	refused(t, "of the one that has none", x, 4, 3, api.ErrArg)
	places(t, "behind the label", x, 6, 2, 2, 6, 10)
}
