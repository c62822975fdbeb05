package suffix_test

import (
	"math"
	"math/rand"
	"slices"
	"sort"
	"testing"

	"pleat/suffix"
)

// compared tells the order of two suffixes, number by number, as the chapter's Words say it.
func compared(l []int, i, k int) int {
	for i < len(l) && k < len(l) {
		if l[i] != l[k] {
			if l[i] < l[k] {
				return -1
			}
			return 1
		}
		i, k = i+1, k+1
	}
	switch {
	case i == k:
		return 0
	case i == len(l):
		return -1
	}
	return 1
}

// reckoned sorts all places by their suffixes, which it holds against each other whole.
func reckoned(l []int) []int {
	places := made(len(l), itself)
	sort.Slice(places, func(a, b int) bool { return compared(l, places[a], places[b]) < 0 })
	return places
}

// inverse tells of each place where it stands in a list that has each once.
func inverse(places []int) []int {
	at := make([]int, len(places))
	for k, place := range places {
		at[place] = k
	}
	return at
}

// ordered tells what is wrong with an array and its ranks: of two neighbours the first one's number is the lesser, or they are alike, and what stands behind it has the lesser rank (behind the end: the least of all). If that holds of all, each suffix is less than the next one.
func ordered(l []int, s suffix.Suffixes) string {
	if len(s.Array) != len(l) || len(s.Rank) != len(l) {
		return "not as many places as numbers"
	}
	for k, place := range s.Array {
		if place < 0 || place >= len(l) {
			return "Array has no place"
		}
		if s.Rank[place] != k {
			return "Rank is not its inverse"
		}
	}
	rank := func(place int) int {
		if place == len(l) {
			return -1
		}
		return s.Rank[place]
	}
	for k := 1; k < len(l); k++ {
		a, b := s.Array[k-1], s.Array[k]
		if l[a] > l[b] || l[a] == l[b] && rank(a+1) >= rank(b+1) {
			return "a suffix is not less than the next one"
		}
	}
	return ""
}

func holdsOrdered(t *testing.T, what string, l []int) suffix.Suffixes {
	t.Helper()
	s := suffix.Of(l)
	if wrong := ordered(l, s); wrong != "" {
		t.Fatalf("W4: %s: %d numbers, %v: %s", what, len(l), few(l), wrong)
	}
	return s
}

func asReckoned(t *testing.T, l []int) {
	t.Helper()
	s := suffix.Of(l)
	if want := reckoned(l); !slices.Equal(s.Array, want) || !slices.Equal(s.Rank, inverse(want)) {
		t.Fatalf("P16.1: %v: Of is %v; not %v", few(l), s, want)
	}
	for k := 1; k < len(s.Array); k++ {
		if suffix.Compare(l, s.Array[k-1], s.Array[k]) != -1 {
			t.Fatalf("W4: %v: %v: at %d", few(l), s.Array, k)
		}
	}
	costs(t, "as reckoned", l, s.Cost)
}

// eachList tells all lists of up to that many numbers of some letters; the list is used again.
func eachList(most int, letters []int, tell func(l []int)) {
	var l []int
	var grow func()
	grow = func() {
		tell(l)
		if len(l) == most {
			return
		}
		for _, n := range letters {
			l = append(l, n)
			grow()
			l = l[:len(l)-1]
		}
	}
	grow()
}

func TestShortLists(t *testing.T) {
	hold := func(l []int) { asReckoned(t, l) }
	eachList(12, row(4, 9), hold)
	eachList(8, row(-1, 0, 1), hold)
	eachList(6, row(math.MinInt, -1, 0, math.MaxInt), hold)
	eachList(5, row(math.MaxInt, 3, math.MinInt, math.MaxInt-1, 2, math.MinInt+1), hold)
}

// eachOrder tells all orders of the places from 0 on; the list is used again.
func eachOrder(size int, tell func(places []int)) {
	places := made(size, itself)
	var from func(at int)
	from = func(at int) {
		if at == size {
			tell(places)
			return
		}
		for k := at; k < size; k++ {
			places[at], places[k] = places[k], places[at]
			from(at + 1)
			places[at], places[k] = places[k], places[at]
		}
	}
	from(0)
}

// TestNoOtherListIsSo goes through all orders of a list's places: each suffix is less than the next one in Array alone.
func TestNoOtherListIsSo(t *testing.T) {
	eachList(5, row(1, 2, 3), func(l []int) {
		array := suffix.Of(l).Array
		eachOrder(len(l), func(places []int) {
			rises := true
			for k := 1; k < len(places); k++ {
				rises = rises && suffix.Compare(l, places[k-1], places[k]) == -1
			}
			if rises != slices.Equal(places, array) {
				t.Fatalf("W4: %v: Array is %v; does %v rise? %v", l, array, places, rises)
			}
		})
	})
}

// drawn tells a list of up to that many numbers, of some kinds: of few letters, with what comes again, of any numbers.
func drawn(r *rand.Rand, most int) []int {
	size, letters := r.Intn(most+1), 1+r.Intn(5)
	l := made(size, func(int) int { return r.Intn(letters) - letters/2 })
	switch r.Intn(4) {
	case 0:
		for k := range l {
			l[k] = int(r.Uint64())
		}
	case 1:
		period := 1 + r.Intn(most)
		for k := period; k < size; k++ {
			l[k] = l[k-period]
		}
	case 2:
		for range 3 {
			if size > 0 {
				copy(l[r.Intn(size):], slices.Clone(l[r.Intn(size):]))
			}
		}
	}
	return l
}

func TestDrawnLists(t *testing.T) {
	r := rand.New(rand.NewSource(161))
	for range 20000 {
		asReckoned(t, drawn(r, 20))
	}
	for range 1000 {
		asReckoned(t, drawn(r, 200))
	}
	for range 50 {
		asReckoned(t, drawn(r, 2000))
	}
}

// likened tells other numbers that are ordered alike: each greater than the next lesser one by what is drawn.
func likened(r *rand.Rand, l []int) []int {
	letters := slices.Compact(slices.Sorted(slices.Values(l)))
	other, next := map[int]int{}, r.Intn(2000)-1000
	for _, n := range letters {
		other[n] = next
		next += 1 + r.Intn(3)*r.Intn(1000)
	}
	return made(len(l), func(k int) int { return other[l[k]] })
}

func alike(t *testing.T, l, other []int) {
	t.Helper()
	s, o := suffix.Of(l), suffix.Of(other)
	if !slices.Equal(s.Array, o.Array) || !slices.Equal(s.Rank, o.Rank) {
		t.Fatalf("What follows: %v and %v are ordered alike: %v, %v", few(l), few(other), few(s.Array), few(o.Array))
	}
}

func TestListsThatAreOrderedAlike(t *testing.T) {
	alike(t, row(3, 1, 3, 1), row(9, -9, 9, -9))
	alike(t, row(3, 1, 3, 1), row(math.MaxInt, math.MinInt, math.MaxInt, math.MinInt))
	alike(t, row(1, 2, 1, 2, 0), row(0, 1, 0, 1, math.MinInt))
	alike(t, row(0, 1, 2, 1, 0), row(math.MinInt, math.MinInt+1, math.MaxInt, math.MinInt+1, math.MinInt))
	alike(t, row(7, 7, 7), row(-5, -5, -5))
	r := rand.New(rand.NewSource(162))
	for range 5000 {
		l := drawn(r, 40)
		alike(t, l, likened(r, l))
	}
	for range 20 {
		l := drawn(r, 4000)
		alike(t, l, likened(r, l))
	}
}
