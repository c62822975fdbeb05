package prune_test

import (
	"math"
	"testing"

	"pleat/api"
	"pleat/prune"
)

func TestOrders(t *testing.T) {
	for _, c := range []struct {
		what   string
		n      int
		places []int
		kept   []int
		pairs  int
	}{
		{"rising, all apart", 3, []int{0, 3, 6, 10, 14}, []int{0, 1, 2, 3, 4}, 0},
		{"rising, one near", 3, []int{0, 3, 6, 8, 11}, []int{0, 1, 2, 4}, 1},
		{"rising by ones", 3, []int{4, 5, 6, 7, 8, 9, 10}, []int{0, 3, 6}, 11},
		{"falling, all apart", 3, []int{14, 10, 6, 3, 0}, []int{0, 1, 2, 3, 4}, 0},
		{"falling, one near", 3, []int{11, 8, 6, 3, 0}, []int{0, 1, 3, 4}, 1},
		{"falling by ones", 3, []int{10, 9, 8, 7, 6, 5, 4}, []int{0, 3, 6}, 11},
		{"to and fro", 4, []int{20, 0, 16, 4, 12, 8}, []int{0, 1, 2, 3, 4, 5}, 0},
		{"to and fro, near", 5, []int{20, 0, 16, 4, 12, 8}, []int{0, 1, 4}, 5},
		{"the midst last", 5, []int{0, 9, 4}, []int{0, 1}, 1},
		{"the midst last, near above", 5, []int{0, 9, 5}, []int{0, 1}, 1},
		{"the midst last, near both", 5, []int{0, 8, 4}, []int{0, 1}, 2},
		{"the midst last, in its room", 5, []int{0, 10, 5}, []int{0, 1, 2}, 0},
		{"the midst first", 5, []int{4, 0, 9}, []int{0, 2}, 1},
		{"the midst first, near both", 5, []int{4, 0, 8}, []int{0}, 2},
		{"one place", 1, []int{7, 7, 7, 7}, []int{0}, 6},
		{"two places", 1, []int{7, 8, 7, 8, 7}, []int{0, 1}, 4},
		{"two places, near", 2, []int{7, 8, 7, 8, 7}, []int{0}, 10},
	} {
		l := at(c.places...)
		apart(t, c.what, c.n, l, c.kept...)
		overlaps(t, c.what, c.n, l, c.pairs)
	}
}

// TestOnlyWhatWasKeptCounts has spots that overlap such as were not kept, and none that was.
func TestOnlyWhatWasKeptCounts(t *testing.T) {
	apart(t, "behind one that was not kept", 4, at(0, 3, 6), 0, 2)
	apart(t, "ahead of one that was not kept", 4, at(6, 3, 0), 0, 2)
	apart(t, "the same place as one that was not kept", 4, at(0, 3, 3, 4), 0, 3)
	apart(t, "between two that were not kept", 3, at(0, 10, 2, 8, 5), 0, 1, 4)
	apart(t, "a chain", 10, at(0, 9, 18, 27, 36), 0, 2, 4)
	apart(t, "a chain, from its midst", 10, at(18, 9, 27, 0, 36), 0, 3, 4)
	apart(t, "what comes later takes none away", 10, at(9, 0, 18), 0)
	apart(t, "a long time behind", 100, at(50, 0, 100, 149, 150, 249, 250), 0, 4, 6)
}

// TestSpotsAreKeptAsTheyAre has classes and registers of all kinds, also such as no spot has: nothing hangs on them.
func TestSpotsAreKeptAsTheyAre(t *testing.T) {
	numbers := []int8{0, 1, 2, 3, 4, 5, 14, 15, 16, -1, math.MaxInt8, math.MinInt8}
	var l []api.Spot
	var all []int
	for _, class := range numbers {
		for _, reg := range numbers {
			all = append(all, len(l))
			l = append(l, api.Spot{At: 3 * len(l), Class: class, Reg: reg})
		}
	}
	apart(t, "all classes and registers", 3, l, all...)
	overlaps(t, "all classes and registers", 3, l, 0)
	overlaps(t, "all classes and registers, near", 4, l, len(l)-1)
	for _, s := range l {
		other := api.Spot{At: s.At, Class: s.Class + 1, Reg: s.Reg - 1}
		apart(t, "unlike, at one place", 2, []api.Spot{s, other}, 0)
		apart(t, "unlike, at one place", 2, []api.Spot{other, s}, 0)
		apart(t, "unlike classes at one place", 1, []api.Spot{s, {At: s.At, Class: other.Class, Reg: s.Reg}, s}, 0)
		apart(t, "unlike registers at one place", 1, []api.Spot{s, {At: s.At, Class: s.Class, Reg: other.Reg}, s}, 0)
		overlaps(t, "unlike, at one place", 1, []api.Spot{s, other, s}, 3)
	}
}

// TestTheSameSpotAgain has one spot several times in a list: each is one of its own there.
func TestTheSameSpotAgain(t *testing.T) {
	s, other := api.Spot{At: 5, Class: api.Spare, Reg: 3}, api.Spot{At: 8, Class: api.Dead}
	apart(t, "twice", 3, []api.Spot{s, s}, 0)
	overlaps(t, "twice", 3, []api.Spot{s, s}, 1)
	apart(t, "thrice", 3, []api.Spot{s, s, s}, 0)
	overlaps(t, "thrice", 3, []api.Spot{s, s, s}, 3)
	apart(t, "two, each twice", 3, []api.Spot{s, other, s, other}, 0, 1)
	overlaps(t, "two, each twice", 3, []api.Spot{s, other, s, other}, 2)
	overlaps(t, "two, each twice, near", 4, []api.Spot{s, other, s, other}, 6)
	overlaps(t, "none at all", 1, []api.Spot{{}, {}, {}, {}}, 6)
	apart(t, "none at all", 1, []api.Spot{{}, {}, {}, {}}, 0)
}

// TestApartOfApart has what was answered handed in again: all of it is kept.
func TestApartOfApart(t *testing.T) {
	for _, n := range []int{1, 2, 3, 5} {
		first := prune.Apart(n, at(5, 3, 9, 7, 1, 0, 12, 4, 8, 2, 20, 16))
		var all []int
		for k := range first {
			all = append(all, k)
		}
		apart(t, "once more", n, first, all...)
		overlaps(t, "once more", n, first, 0)
	}
}
