package common_test

import (
	"math"
	"math/bits"
	"math/rand"
	"slices"
	"sort"
	"testing"

	"pleat/api"
	"pleat/common"
	"pleat/suffix"
)

// inCommon tells how many numbers two suffixes have in common, one by one, as the chapter's Words say it.
func inCommon(l []int, i, k int) int {
	n := 0
	for i+n < len(l) && k+n < len(l) && l[i+n] == l[k+n] {
		n++
	}
	return n
}

// isLess tells whether the suffix at i is less than that at k, as chapter 16's Words say it.
func isLess(l []int, i, k int) bool {
	n := inCommon(l, i, k)
	if i+n == len(l) || k+n == len(l) {
		return i > k
	}
	return l[i+n] < l[k+n]
}

// reckoned sorts all places by their suffixes, which it holds against each other whole.
func reckoned(l []int) []int {
	places := made(len(l), itself)
	sort.Slice(places, func(a, b int) bool { return isLess(l, places[a], places[b]) })
	return places
}

// neighbours tells the numbers p of a list and its array, each pair of suffixes gone through from their beginnings on.
func neighbours(l, array []int) []int {
	return made(len(l), func(at int) int {
		if at == 0 {
			return 0
		}
		return inCommon(l, array[at-1], array[at])
	})
}

// inverse tells of each place where it stands in a list that has each once.
func inverse(places []int) []int {
	at := make([]int, len(places))
	for k, place := range places {
		at[place] = k
	}
	return at
}

// asReckoned holds Prefixes of a list and its array against the plain reckoning of both, and tells p and the array.
func asReckoned(t *testing.T, l []int) (p, array []int) {
	t.Helper()
	array = reckoned(l)
	p, cost, e := common.Prefixes(l, array)
	if want := neighbours(l, array); e != api.OK || !slices.Equal(p, want) {
		t.Fatalf("P17.1: %v, %v: Prefixes is %v, %d; not %v", few(l), few(array), few(p), e, few(want))
	}
	costs(t, "as reckoned", l, cost)
	return p, array
}

// eachList tells all lists of up to that many numbers of some letters; the list is used again.
func eachList(most int, letters []int, tell func(l []int)) {
	var l []int
	var grow func()
	grow = func() {
		tell(l)
		if len(l) == most {
			return
		}
		for _, n := range letters {
			l = append(l, n)
			grow()
			l = l[:len(l)-1]
		}
	}
	grow()
}

func TestShortLists(t *testing.T) {
	hold := func(l []int) { asReckoned(t, l) }
	eachList(12, row(4, 9), hold)
	eachList(8, row(-1, 0, 1), hold)
	eachList(6, row(math.MinInt, -1, 0, math.MaxInt), hold)
	eachList(5, row(math.MaxInt, 3, math.MinInt, math.MaxInt-1, 2, math.MinInt+1), hold)
}

// drawn tells a list of up to that many numbers, of some kinds: of few letters, with what comes again, of any numbers.
func drawn(r *rand.Rand, most int) []int {
	size, letters := r.Intn(most+1), 1+r.Intn(5)
	l := made(size, func(int) int { return r.Intn(letters) - letters/2 })
	switch r.Intn(4) {
	case 0:
		for k := range l {
			l[k] = int(r.Uint64())
		}
	case 1:
		period := 1 + r.Intn(most)
		for k := period; k < size; k++ {
			l[k] = l[k-period]
		}
	case 2:
		for range 3 {
			if size > 0 {
				copy(l[r.Intn(size):], slices.Clone(l[r.Intn(size):]))
			}
		}
	}
	return l
}

func TestDrawnLists(t *testing.T) {
	r := rand.New(rand.NewSource(173))
	for range 20000 {
		asReckoned(t, drawn(r, 20))
	}
	for range 1000 {
		asReckoned(t, drawn(r, 200))
	}
	for range 50 {
		asReckoned(t, drawn(r, 2000))
	}
}

// leasts tells the least number of p behind i, up to k (i less than k), by the leasts of all rows whose lengths are powers of two: long lists are asked so, without common.Least.
func leasts(p []int) func(i, k int) int {
	rows := [][]int{p}
	for step := 1; 2*step <= len(p); step *= 2 {
		half := rows[len(rows)-1]
		rows = append(rows, made(len(p)-2*step+1, func(k int) int { return min(half[k], half[k+step]) }))
	}
	return func(i, k int) int {
		b := bits.Len(uint(k-i)) - 1
		return min(rows[b][i+1], rows[b][k+1-1<<b])
	}
}

// holdsStepwise holds p of a list of any length: two neighbours have nothing in common, if their first numbers differ, else one more than the suffixes behind these, whose common prefix p tells already. If that holds of all, p is right.
func holdsStepwise(t *testing.T, what string, l []int) (p []int, cost int) {
	t.Helper()
	s := suffix.Of(l)
	p, cost, e := common.Prefixes(l, s.Array)
	if e != api.OK || len(p) != len(l) || len(p) > 0 && p[0] != 0 {
		t.Fatalf("P17.1: %s: %d numbers, %v: %v, %d", what, len(l), few(l), few(p), e)
	}
	least := leasts(p)
	for at := 1; at < len(p); at++ {
		a, b, want := s.Array[at-1], s.Array[at], 0
		if l[a] == l[b] {
			want = 1
			if max(a, b)+1 < len(l) {
				want += least(s.Rank[a+1], s.Rank[b+1])
			}
		}
		if p[at] != want {
			t.Fatalf("P17.1: %s: %d numbers, %v: p at %d is %d, not %d", what, len(l), few(l), at, p[at], want)
		}
	}
	return p, cost
}

// TestStepwise holds the stepwise asking itself against lists whose numbers p are reckoned plainly.
func TestStepwise(t *testing.T) {
	eachList(8, row(1, 2), func(l []int) {
		p, cost := holdsStepwise(t, "short", l)
		if !slices.Equal(p, neighbours(l, reckoned(l))) {
			t.Fatalf("P17.1: %v: %v", l, p)
		}
		costs(t, "short", l, cost)
	})
}
