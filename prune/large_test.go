package prune_test

import (
	"math/rand"
	"slices"
	"testing"

	"pleat/api"
)

// every tells each place that a spot may have, rising.
func every() []int {
	l := make([]int, most+1)
	for p := range l {
		l[p] = p
	}
	return l
}

// steps tells the numbers from 0 on, by n, up to the last place.
func steps(n int) []int {
	var l []int
	for p := 0; p <= most; p += n {
		l = append(l, p)
	}
	return l
}

// TestEachPlace has a spot at each place: of a pair that overlaps one is up to n - 1 places behind the other.
func TestEachPlace(t *testing.T) {
	rising := at(every()...)
	falling := slices.Clone(rising)
	slices.Reverse(falling)
	for _, n := range lengths {
		pairs := 0
		for p := range most + 1 {
			pairs += min(p, n-1)
		}
		apart(t, "each place, rising", n, rising, steps(n)...)
		apart(t, "each place, falling", n, falling, steps(n)...)
		overlaps(t, "each place, rising", n, rising, pairs)
		overlaps(t, "each place, falling", n, falling, pairs)
	}
}

// TestOnePlaceVeryOften has more pairs than 32 bits tell.
func TestOnePlaceVeryOften(t *testing.T) {
	l := slices.Repeat(at(8), 300000)
	l[200000].Class, l[100000].Reg = api.Thunk, 5
	apart(t, "one place", 2, l, 0)
	overlaps(t, "one place", 2, l, 300000*299999/2)
	l[299999].At = 6
	apart(t, "one place, and another one", 2, l, 0, 299999)
	overlaps(t, "one place, and another one", 2, l, 299999*299998/2)
}

// TestManySpots has each place many times, in no order: what is kept and how many overlap is counted by the places alone.
func TestManySpots(t *testing.T) {
	r := rand.New(rand.NewSource(204))
	for _, n := range []int{1, 2, 3, 1000, most} {
		l := make([]api.Spot, 500000)
		var counts [3*most + 1]int
		var covered [3*most + 1]bool // of each place whether a spot there would overlap one that was kept
		var which []int
		for k := range l {
			p := r.Intn(most + 1)
			l[k] = api.Spot{At: p, Class: int8(k % 5)}
			counts[most+p]++
			if !covered[most+p] {
				which = append(which, k)
				for near := p - n + 1; near < p+n; near++ {
					covered[most+near] = true
				}
			}
		}
		pairs, near := 0, 0
		for p := most; p <= 2*most; p++ {
			pairs += counts[p]*near + counts[p]*(counts[p]-1)/2
			near += counts[p] - counts[p-n+1]
		}
		apart(t, "many spots", n, l, which...)
		overlaps(t, "many spots", n, l, pairs)
	}
}
