package suffix_test

import (
	"cmp"
	"math"
	"math/rand"
	"testing"

	"pleat/suffix"
)

func holdsCompare(t *testing.T, l []int, i, k, want int) {
	t.Helper()
	if got := suffix.Compare(l, i, k); got != want {
		t.Fatalf("P16.3: Compare of %d numbers, %v, and %d, %d is %d, not %d", len(l), few(l), i, k, got, want)
	}
}

func TestCompareExamples(t *testing.T) {
	l := row(1, 2, 1, 2, 0)
	holdsCompare(t, l, 0, 2, 1)
	holdsCompare(t, l, 2, 0, -1)
	holdsCompare(t, l, 3, 3, 0)
	holdsCompare(t, l, 0, 9, 0)
	holdsCompare(t, l, 9, 0, 0)
	holdsCompare(t, l, 4, 0, -1)
	holdsCompare(t, l, 1, 4, 1)
}

// allPlaces holds Compare of each two places of a list against the plain reckoning, and against where Of puts them.
func allPlaces(t *testing.T, l []int) {
	t.Helper()
	rank := suffix.Of(l).Rank
	for i := range l {
		for k := range l {
			holdsCompare(t, l, i, k, compared(l, i, k))
			holdsCompare(t, l, i, k, cmp.Compare(rank[i], rank[k]))
		}
	}
}

func TestCompareOfAllPlaces(t *testing.T) {
	hold := func(l []int) { allPlaces(t, l) }
	eachList(7, row(0, 1), hold)
	eachList(4, row(math.MinInt, -1, 0, math.MaxInt), hold)
	r := rand.New(rand.NewSource(163))
	for range 1000 {
		allPlaces(t, drawn(r, 30))
	}
}

// TestCompareOfNoPlaces has numbers that are no places, at either side and at both.
func TestCompareOfNoPlaces(t *testing.T) {
	for _, l := range [][]int{nil, {}, row(0), row(-5), row(7, 7, 7), row(3, 1, 3, 1), row(math.MaxInt, math.MinInt)} {
		for _, none := range row(math.MinInt, math.MinInt+1, math.MinInt32, -len(l)-1, -2, -1, len(l), len(l)+1, 2*len(l)+9, math.MaxInt32, math.MaxInt-1, math.MaxInt) {
			for place := range l {
				holdsCompare(t, l, none, place, 0)
				holdsCompare(t, l, place, none, 0)
			}
			for _, other := range row(math.MinInt, -1, len(l), math.MaxInt, none) {
				holdsCompare(t, l, none, other, 0)
				holdsCompare(t, l, other, none, 0)
			}
		}
	}
}

// TestCompareKeepsToTheList has lists with numbers of others behind their ends: they are no places, and no suffix goes on with them.
func TestCompareKeepsToTheList(t *testing.T) {
	for _, behind := range row(-9, 0, 9) {
		l := withRoom(row(5, 6, 5), behind)
		holdsCompare(t, l, 0, 2, 1)
		holdsCompare(t, l, 2, 0, -1)
		holdsCompare(t, l, 0, 3, 0)
		holdsCompare(t, l, 3, 4, 0)
	}
}

func TestCompareOfLongLists(t *testing.T) {
	for _, size := range row(most, most+1, 100000) {
		l := made(size, func(int) int { return 7 })
		holdsCompare(t, l, 0, 1, 1)
		holdsCompare(t, l, 1, 0, -1)
		holdsCompare(t, l, 0, size-1, 1)
		holdsCompare(t, l, size-1, size-2, -1)
		holdsCompare(t, l, 0, 0, 0)
		holdsCompare(t, l, size-1, size-1, 0)
		holdsCompare(t, l, size-1, size, 0)
		l[size-1] = 8
		holdsCompare(t, l, 0, 1, -1)
		l[size-1] = 6
		holdsCompare(t, l, 0, 1, 1)
	}
}
