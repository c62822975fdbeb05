package common_test

import (
	"math"
	"math/rand"
	"slices"
	"testing"

	"pleat/api"
	"pleat/common"
	"pleat/suffix"
)

// noPlaces tells numbers that are no place of a list of that size.
func noPlaces(size int) []int {
	return row(math.MinInt, math.MinInt+1, math.MinInt32, -size-1, -size, -2, -1, size, size+1, 2*size+9, math.MaxInt32, math.MaxInt-1, math.MaxInt)
}

// wrongLengths refuses arrays that are too short, and too long.
func wrongLengths(t *testing.T, l, array []int) {
	t.Helper()
	for to := range array {
		refused(t, "too short", l, array[:to])
		refused(t, "too short at its beginning", l, array[to+1:])
		refused(t, "one place left out", l, slices.Delete(slices.Clone(array), to, to+1))
		refused(t, "one place more", l, slices.Insert(slices.Clone(array), to, array[to]))
	}
	for _, number := range append(noPlaces(len(l)), 0, len(l)-1) {
		refused(t, "too long", l, append(slices.Clone(array), number))
		refused(t, "too long at its beginning", l, append(row(number), array...))
	}
	if len(array) > 0 {
		refused(t, "twice as long", l, slices.Concat(array, array))
	}
}

// wrongNumbers refuses arrays with one place twice, and with numbers that are no place.
func wrongNumbers(t *testing.T, l, array []int) {
	t.Helper()
	other := slices.Clone(array)
	for at, place := range array {
		for _, number := range append(noPlaces(len(l)), array...) {
			if other[at] = number; number != place {
				refused(t, "one number that is another", l, other)
			}
		}
		other[at] = place
	}
	for _, number := range noPlaces(len(l)) {
		if len(l) > 0 {
			refused(t, "one number that is no place, throughout", l, slices.Repeat(row(number), len(l)))
		}
	}
}

// wrongOrders refuses each two places changed about, and the array turned and moved on.
func wrongOrders(t *testing.T, l, array []int) {
	t.Helper()
	other := slices.Clone(array)
	for i := range array {
		for k := range i {
			other[i], other[k] = other[k], other[i]
			refused(t, "two places changed about", l, other)
			other[i], other[k] = other[k], other[i]
		}
		if i > 0 {
			refused(t, "moved on", l, slices.Concat(array[i:], array[:i]))
		}
	}
	if slices.Reverse(other); len(l) > 1 {
		refused(t, "turned", l, other)
	}
	if ranks := inverse(array); !slices.Equal(ranks, array) {
		refused(t, "the ranks", l, ranks)
	}
}

func TestArraysThatAreNone(t *testing.T) {
	hold := func(l []int) {
		array := suffix.Of(l).Array
		wrongLengths(t, l, array)
		wrongNumbers(t, l, array)
		wrongOrders(t, l, array)
	}
	eachList(5, row(0, 1), hold)
	eachList(3, row(math.MinInt, 0, math.MaxInt), hold)
	for _, l := range samples() {
		hold(l)
	}
	r := rand.New(rand.NewSource(171))
	for range 100 {
		hold(drawn(r, 20))
	}
}

// TestArraysOfOtherLists takes another list's array only where it is the list's own, too.
func TestArraysOfOtherLists(t *testing.T) {
	r := rand.New(rand.NewSource(172))
	lists := samples()
	for range 300 {
		lists = append(lists, drawn(r, 6), drawn(r, 12))
	}
	for _, l := range lists {
		own := reckoned(l)
		for _, other := range lists {
			array := reckoned(other)
			if !slices.Equal(array, own) {
				refused(t, "another list's", l, array)
			} else if p, _, e := common.Prefixes(l, array); e != api.OK || !slices.Equal(p, neighbours(l, own)) {
				t.Fatalf("P17.1: %v has the array of %v: %v, %d", l, other, p, e)
			}
		}
	}
}

// TestAllArraysOfShortLists goes through all rows of numbers around the places: one of them is the array.
func TestAllArraysOfShortLists(t *testing.T) {
	eachList(4, row(1, 2, 3), func(l []int) {
		own, taken := reckoned(l), 0
		eachList(len(l)+1, made(len(l)+2, func(k int) int { return k - 1 }), func(array []int) {
			if slices.Equal(array, own) {
				asReckoned(t, l)
				taken++
			} else {
				refused(t, "not its array", l, array)
			}
		})
		if taken != 1 {
			t.Fatalf("%v: %d arrays were its own", l, taken)
		}
	})
}

func TestLongArraysThatAreNone(t *testing.T) {
	for _, size := range row(most-1, most, most+1, 40000) {
		l := slices.Repeat(row(7), size)
		refused(t, "rising", l, made(size, itself))
		refused(t, "nil", l, nil)
		refused(t, "one short", l, turned(size)[:size-1])
		refused(t, "one more", l, append(turned(size), 0))
		last := turned(size)
		last[size-2], last[size-1] = last[size-1], last[size-2]
		refused(t, "the last two changed about", l, last)
		last[size-2], last[size-1] = 0, 0
		refused(t, "the last one twice", l, last)
	}
}
