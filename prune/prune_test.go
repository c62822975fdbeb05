package prune_test

import (
	"math"
	"slices"
	"testing"

	"pleat/api"
	"pleat/prune"
)

const most = 16384 // words of a text; also the last place that a spot may have

// at tells spots by their places, each otherwise unlike the one ahead of it.
func at(places ...int) []api.Spot {
	l := make([]api.Spot, 0, len(places))
	for k, p := range places {
		l = append(l, api.Spot{At: p, Class: int8(1 + k%4), Reg: int8(k % 15)})
	}
	return l
}

// picked tells those of l that stand there.
func picked(l []api.Spot, which ...int) []api.Spot {
	var p []api.Spot
	for _, k := range which {
		p = append(p, l[k])
	}
	return p
}

// shown tells the beginning of a list.
func shown(l []api.Spot) []api.Spot { return l[:min(len(l), 20)] }

// apart holds that Apart keeps those of l that stand there.
func apart(t *testing.T, what string, n int, l []api.Spot, which ...int) {
	t.Helper()
	if got, want := prune.Apart(n, l), picked(l, which...); !slices.Equal(got, want) {
		t.Fatalf("P20.1: %s: Apart of %d and %v is %v, not %v", what, n, shown(l), shown(got), shown(want))
	}
}

func overlaps(t *testing.T, what string, n int, l []api.Spot, want int) {
	t.Helper()
	if got := prune.Overlaps(n, l); got != want {
		t.Fatalf("P20.2: %s: Overlaps of %d and %v is %d, not %d", what, n, shown(l), got, want)
	}
}

// none holds that Apart tells nothing, and Overlaps 0.
func none(t *testing.T, what string, n int, l []api.Spot) {
	t.Helper()
	if got := prune.Apart(n, l); len(got) != 0 {
		t.Fatalf("P20.1: %s: Apart of %d and %v is %v, not none", what, n, shown(l), shown(got))
	}
	overlaps(t, what, n, l, 0)
}

func TestExamples(t *testing.T) {
	apart(t, "rising", 2, at(0, 1, 2, 3, 4), 0, 2, 4)
	overlaps(t, "rising", 2, at(0, 1, 2, 3, 4), 4)
	apart(t, "in no order", 3, at(5, 3, 9, 7), 0, 2)
	overlaps(t, "in no order", 3, at(5, 3, 9, 7), 3)
	none(t, "no length", 0, at(0, 9))
	none(t, "no spot", 2, nil)
}

// TestExampleOfTheWhole is the fifth one of the document: four words that stand at 0 and 4.
func TestExampleOfTheWhole(t *testing.T) {
	l := []api.Spot{{At: 0, Class: api.Dead}, {At: 4, Class: api.Dead}}
	apart(t, "four words", 4, l, 0, 1)
	overlaps(t, "four words", 4, l, 0)
	apart(t, "one word more", 5, l, 0)
	overlaps(t, "one word more", 5, l, 1)
}

// lengths are such as a sequence can have, and its edges.
var lengths = []int{1, 2, 3, 4, 7, 100, most/2 - 1, most / 2, most - 2, most - 1, most}

// noLengths are such as none has.
var noLengths = []int{0, -1, -2, most + 1, most + 2, 2 * most, math.MaxInt32, math.MinInt32, math.MaxInt32 + 1, math.MaxInt - 1, math.MaxInt, math.MinInt, math.MinInt + 1}

// noPlaces are such as no spot may have.
var noPlaces = []int{-1, -2, -most, most + 1, most + 2, 2 * most, 4*most - 1, 1 << 16, 1<<32 + 1, -1<<32 + 1, math.MaxInt32, math.MinInt32, math.MaxInt - 1, math.MaxInt, math.MinInt, math.MinInt + 1}

func TestNoSpot(t *testing.T) {
	for _, n := range slices.Concat(lengths, noLengths) {
		none(t, "nil", n, nil)
		none(t, "an empty list", n, []api.Spot{})
		none(t, "a list with spare room alone", n, at(0, 1, 2)[:0])
	}
}

func TestOneSpot(t *testing.T) {
	for _, n := range lengths {
		for _, p := range []int{0, 1, 2, most / 2, most - 2, most - 1, most} {
			apart(t, "one spot", n, at(p), 0)
			overlaps(t, "one spot", n, at(p), 0)
		}
	}
}

// TestTwoSpots has them so far apart as decides, where the text begins, in its midst, and where it ends.
func TestTwoSpots(t *testing.T) {
	for _, n := range lengths {
		for _, far := range []int{0, 1, n - 2, n - 1, n, n + 1, n + 2, most - 1, most} {
			for _, first := range []int{0, 1, most / 2, most - far - 1, most - far} {
				if far < 0 || first < 0 || first+far > most {
					continue
				}
				if rising, falling := at(first, first+far), at(first+far, first); far < n {
					apart(t, "near, rising", n, rising, 0)
					apart(t, "near, falling", n, falling, 0)
					overlaps(t, "near, rising", n, rising, 1)
					overlaps(t, "near, falling", n, falling, 1)
				} else {
					apart(t, "far, rising", n, rising, 0, 1)
					apart(t, "far, falling", n, falling, 0, 1)
					overlaps(t, "far, rising", n, rising, 0)
					overlaps(t, "far, falling", n, falling, 0)
				}
			}
		}
	}
}

func TestNoLength(t *testing.T) {
	for _, n := range noLengths {
		for _, l := range [][]api.Spot{at(0), at(most), at(0, 0), at(0, most), at(most, 0), at(1, 2, 3), at(0, 9, 100, 1000), at(-1), at(3, most+1)} {
			none(t, "no length", n, l)
		}
	}
	apart(t, "the least length", 1, at(0, 0, 1, 1), 0, 2)
	overlaps(t, "the least length", 1, at(0, 0, 1, 1), 2)
	apart(t, "the greatest length", most, at(0, most-1, most, 1), 0, 2)
	overlaps(t, "the greatest length", most, at(0, most-1, most, 1), 5)
}

func TestNoPlace(t *testing.T) {
	others := [][]int{{}, {0}, {most}, {7, 7}, {0, 4, 9}, {9, 4, 0}, {0, 1, 2, 3, most}}
	for _, n := range slices.Concat(lengths, []int{0, -1, most + 1}) {
		for _, wrong := range noPlaces {
			for _, l := range others {
				for k := range len(l) + 1 {
					none(t, "a wrong place", n, at(slices.Insert(slices.Clone(l), k, wrong)...))
				}
				none(t, "wrong places alone", n, at(wrong, wrong))
			}
		}
	}
}

// TestTheEdgesOfPlaces has the first and the last place that may be anywhere in a list.
func TestTheEdgesOfPlaces(t *testing.T) {
	for _, edge := range []int{0, most} {
		apart(t, "at the front", 100, at(edge, 500, 4000), 0, 1, 2)
		apart(t, "in the midst", 100, at(500, edge, 4000), 0, 1, 2)
		apart(t, "at the end", 100, at(500, 4000, edge), 0, 1, 2)
		overlaps(t, "at the front", 9000, at(edge, edge, 8192), 3)
		overlaps(t, "in the midst", 9000, at(edge, 8192, edge), 3)
		overlaps(t, "at the end", 9000, at(8192, edge, edge), 3)
	}
}
