package prune_test

import (
	"math/rand"
	"slices"
	"testing"

	"pleat/api"
	"pleat/prune"
)

// share tells whether sequences of n words at both places have a place in common, each place asked.
func share(n, one, other int) bool {
	for p := one; p < one+n; p++ {
		if other <= p && p < other+n {
			return true
		}
	}
	return false
}

// reckoned tells which of l are kept, and how many pairs overlap, each spot held against each other one.
func reckoned(n int, l []api.Spot) (which []int, pairs int) {
	for k, s := range l {
		clear := true
		for _, ahead := range which {
			clear = clear && !share(n, s.At, l[ahead].At)
		}
		if clear {
			which = append(which, k)
		}
		for _, other := range l[:k] {
			if share(n, other.At, s.At) {
				pairs++
			}
		}
	}
	return which, pairs
}

// tally counts what was met.
type tally map[string]int

func (c tally) needs(t *testing.T, least map[string]int) {
	t.Helper()
	for what, n := range least {
		if c[what] < n {
			t.Errorf("only %d times: %s", c[what], what)
		}
	}
}

// asReckoned holds both calls of n and l, and what follows.
func asReckoned(t *testing.T, c tally, n int, l []api.Spot) {
	t.Helper()
	which, pairs := reckoned(n, l)
	apart(t, "as reckoned", n, l, which...)
	overlaps(t, "as reckoned", n, l, pairs)
	overlaps(t, "What follows: apart", n, prune.Apart(n, l), 0)
	switch {
	case len(which) == len(l):
		c["all"]++
	case len(which) == 1:
		c["one"]++
	default:
		c["some"]++
	}
	if byPlace := func(a, b api.Spot) int { return a.At - b.At }; !slices.IsSortedFunc(l, byPlace) {
		c["in no order"]++
	}
	if pairs > len(l) {
		c["many pairs"]++
	}
}

// eachList tells all lists of up to that many of the places below an end.
func eachList(size, end int, tell func(places []int)) {
	var grow func(l []int)
	grow = func(l []int) {
		tell(l)
		if len(l) == size {
			return
		}
		for p := range end {
			grow(append(slices.Clone(l), p))
		}
	}
	grow(nil)
}

func TestAllShortLists(t *testing.T) {
	c := tally{}
	for _, most := range []struct{ size, end int }{{6, 4}, {5, 6}, {4, 9}, {3, 16}} {
		eachList(most.size, most.end, func(places []int) {
			for n := 1; n <= most.end+1; n++ {
				asReckoned(t, c, n, at(places...))
			}
		})
	}
	c.needs(t, map[string]int{"all": 5000, "one": 5000, "some": 5000, "in no order": 10000, "many pairs": 5000})
}

// TestAllShortListsAtTheEnd has the same lists, but where the places end.
func TestAllShortListsAtTheEnd(t *testing.T) {
	c := tally{}
	eachList(5, 5, func(places []int) {
		high := slices.Clone(places)
		for k := range high {
			high[k] = 16384 - high[k]
		}
		for n := 1; n <= 6; n++ {
			asReckoned(t, c, n, at(high...))
		}
	})
	c.needs(t, map[string]int{"all": 300, "one": 1000, "some": 1000, "in no order": 5000, "many pairs": 1000})
}

func oneOf[T any](r *rand.Rand, from ...T) T { return from[r.Intn(len(from))] }

// drawn tells spots of any places up to an end, some of them again, some close to others, in some order.
func drawn(r *rand.Rand, size, end, n int) []api.Spot {
	l := make([]api.Spot, size)
	for k := range l {
		l[k] = api.Spot{At: r.Intn(end + 1), Class: int8(r.Intn(256) - 128), Reg: int8(r.Intn(256) - 128)}
		if k > 0 && r.Intn(2) == 0 {
			near := l[r.Intn(k)].At + oneOf(r, -n-1, -n, 1-n, -1, 0, 1, n-1, n, n+1)
			l[k].At = max(0, min(near, end))
		}
	}
	rising := func(a, b api.Spot) int { return a.At - b.At }
	switch r.Intn(3) {
	case 0:
		slices.SortStableFunc(l, rising)
	case 1:
		slices.SortStableFunc(l, rising)
		slices.Reverse(l)
	}
	return l
}

func TestDrawnLists(t *testing.T) {
	r := rand.New(rand.NewSource(201))
	c := tally{}
	for range 6000 {
		n, end := 1+r.Intn(12), oneOf(r, 10, 40, 100, 300, 16384)
		asReckoned(t, c, n, drawn(r, r.Intn(30), end, n))
	}
	for range 60 {
		n := oneOf(r, 1, 2, 50, 400, 16383, 16384)
		asReckoned(t, c, n, drawn(r, r.Intn(200), 16384, n))
	}
	c.needs(t, map[string]int{"all": 300, "one": 30, "some": 3000, "in no order": 3000, "many pairs": 500})
}

// mostApart tells how many spots the greatest choice of l has of which no two overlap, every choice tried.
func mostApart(n int, l []api.Spot) int {
	best := 0
	for choice := range 1 << len(l) {
		size, clear := 0, true
		for k := range l {
			if choice>>k&1 == 0 {
				continue
			}
			size++
			for other := range k {
				clear = clear && (choice>>other&1 == 0 || !share(n, l[k].At, l[other].At))
			}
		}
		if clear {
			best = max(best, size)
		}
	}
	return best
}

// TestNoChoiceHasMore holds it of all rising lists of a few places, equal ones among them.
func TestNoChoiceHasMore(t *testing.T) {
	counted := 0
	hold := func(n int, l []api.Spot) {
		if got, want := len(prune.Apart(n, l)), mostApart(n, l); got != want {
			t.Fatalf("What follows: Apart of %d and %v has %d spots, but a choice has %d", n, l, got, want)
		}
		counted++
	}
	eachList(6, 7, func(places []int) {
		if slices.IsSorted(places) {
			for n := 1; n <= 5; n++ {
				hold(n, at(places...))
			}
		}
	})
	r := rand.New(rand.NewSource(202))
	for range 300 {
		n := 1 + r.Intn(8)
		l := drawn(r, r.Intn(11), 5+r.Intn(40), n)
		slices.SortStableFunc(l, func(a, b api.Spot) int { return a.At - b.At })
		hold(n, l)
	}
	if counted < 5000 {
		t.Errorf("only %d rising lists", counted)
	}
}
