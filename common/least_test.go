package common_test

import (
	"math"
	"math/rand"
	"testing"

	"pleat/api"
	"pleat/common"
)

func holdsLeast(t *testing.T, p []int, i, k, want int, e api.Errno) {
	t.Helper()
	if got, err := common.Least(p, i, k); got != want || err != e {
		t.Fatalf("P17.2: Least of %d numbers, %v, and %d, %d is %d, %d; not %d, %d", len(p), few(p), i, k, got, err, want, e)
	}
}

func TestExamplesOfLeast(t *testing.T) {
	p := row(0, 1, 0, 2)
	holdsLeast(t, p, 0, 1, 1, api.OK)
	holdsLeast(t, p, 1, 3, 0, api.OK)
	holdsLeast(t, p, 3, 1, 0, api.OK)
	holdsLeast(t, p, 2, 2, -1, api.OK)
	holdsLeast(t, p, 0, 4, 0, api.ErrArg)
	holdsLeast(t, p, 2, 3, 2, api.OK)
	holdsLeast(t, p, 3, 2, 2, api.OK)
}

// leastBehind goes through the numbers of p behind the lesser place, up to the greater one.
func leastBehind(p []int, i, k int) int {
	if i == k {
		return -1
	}
	lesser, greater := min(i, k), max(i, k)
	least := p[greater]
	for at := lesser + 1; at < greater; at++ {
		if p[at] < least {
			least = p[at]
		}
	}
	return least
}

// allLeasts holds Least of each two places of p, in both orders, and of each with itself.
func allLeasts(t *testing.T, p []int) {
	t.Helper()
	for i := range p {
		for k := range p {
			holdsLeast(t, p, i, k, leastBehind(p, i, k), api.OK)
		}
	}
}

// TestLeastOfAnyNumbers has also numbers p as no array has them: below 0, the greatest, the least.
func TestLeastOfAnyNumbers(t *testing.T) {
	hold := func(p []int) { allLeasts(t, p) }
	eachList(6, row(0, 1, 2), hold)
	eachList(5, row(math.MinInt, -1, 0, math.MaxInt), hold)
	r := rand.New(rand.NewSource(174))
	for range 1000 {
		allLeasts(t, drawn(r, 30))
	}
	holdsLeast(t, row(math.MinInt, math.MaxInt, math.MaxInt), 0, 2, math.MaxInt, api.OK)
	holdsLeast(t, row(5, -1, 5), 2, 1, 5, api.OK)
	holdsLeast(t, row(5, -1, 5), 2, 0, -1, api.OK)
	holdsLeast(t, row(-7, 3, 4), 0, 2, 3, api.OK)
}

// TestLeastOfNoPlaces has numbers that are no places, at either side and at both.
func TestLeastOfNoPlaces(t *testing.T) {
	for _, p := range [][]int{nil, {}, make([]int, 0, 4), row(0), row(-5), row(0, 1, 2), row(0, 1, 0, 2), row(math.MaxInt, math.MinInt)} {
		for _, none := range noPlaces(len(p)) {
			if 0 <= none && none < len(p) {
				t.Fatalf("%d is a place of %v", none, p)
			}
			for place := range p {
				holdsLeast(t, p, none, place, 0, api.ErrArg)
				holdsLeast(t, p, place, none, 0, api.ErrArg)
			}
			for _, other := range append(noPlaces(len(p)), none) {
				holdsLeast(t, p, none, other, 0, api.ErrArg)
			}
		}
	}
}

// TestLeastKeepsToTheList has a list with numbers of others behind its end: they are no places.
func TestLeastKeepsToTheList(t *testing.T) {
	p := withRoom(row(0, 3, 2), -9)
	holdsLeast(t, p, 0, 2, 2, api.OK)
	holdsLeast(t, p, 2, 3, 0, api.ErrArg)
	holdsLeast(t, p, 3, 3, 0, api.ErrArg)
	holdsLeast(t, p, 3, 4, 0, api.ErrArg)
}

func TestLeastOfLongLists(t *testing.T) {
	for _, size := range row(most, most+1, 100000) {
		p := made(size, itself)
		holdsLeast(t, p, 0, size-1, 1, api.OK)
		holdsLeast(t, p, size-1, 0, 1, api.OK)
		holdsLeast(t, p, size-2, size-1, size-1, api.OK)
		holdsLeast(t, p, size-1, size-1, -1, api.OK)
		holdsLeast(t, p, size-1, size, 0, api.ErrArg)
		p[size/2] = -3
		holdsLeast(t, p, 0, size-1, -3, api.OK)
		holdsLeast(t, p, size/2, size-1, size/2+1, api.OK)
		holdsLeast(t, p, size/2, 0, -3, api.OK)
	}
}

// allInCommon holds that Least of two places of an array is the common prefix of their suffixes.
func allInCommon(t *testing.T, l []int) {
	t.Helper()
	p, array := asReckoned(t, l)
	for i := range p {
		for k := range p {
			if i != k {
				if got, e := common.Least(p, i, k); e != api.OK || got != inCommon(l, array[i], array[k]) {
					t.Fatalf("W4: %v, %v, %v: Least of %d and %d is %d, %d", l, array, p, i, k, got, e)
				}
			}
		}
	}
}

func TestLeastIsTheCommonPrefix(t *testing.T) {
	hold := func(l []int) { allInCommon(t, l) }
	eachList(9, row(0, 1), hold)
	eachList(6, row(1, 2, 3), hold)
	eachList(4, row(math.MinInt, -1, 0, math.MaxInt), hold)
	for _, l := range samples() {
		hold(l)
	}
	r := rand.New(rand.NewSource(175))
	for range 2000 {
		hold(drawn(r, 25))
	}
	for range 20 {
		hold(drawn(r, 150))
	}
}
