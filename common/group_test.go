package common_test

import (
	"math"
	"math/rand"
	"slices"
	"testing"

	"pleat/api"
	"pleat/common"
)

func holdsGroup(t *testing.T, p []int, at, length, from, to int, e api.Errno) {
	t.Helper()
	if f, u, err := common.Group(p, at, length); f != from || u != to || err != e {
		t.Fatalf("P17.3: Group of %d numbers, %v, and %d, %d is %d, %d, %d; not %d, %d, %d", len(p), few(p), at, length, f, u, err, from, to, e)
	}
}

func TestExamplesOfGroup(t *testing.T) {
	p := row(0, 1, 0, 2)
	holdsGroup(t, p, 1, 1, 0, 2, api.OK)
	holdsGroup(t, p, 3, 1, 2, 4, api.OK)
	holdsGroup(t, p, 3, 3, 3, 4, api.OK)
	holdsGroup(t, p, 0, 0, 0, 4, api.OK)
	holdsGroup(t, p, 2, -1, 0, 0, api.ErrArg)
	holdsGroup(t, p, 4, 0, 0, 0, api.ErrArg)
	holdsGroup(t, p, 2, 2, 2, 4, api.OK)
}

// isRow tells whether all numbers of p behind from, up to to - 1, are at least length.
func isRow(p []int, from, to, length int) bool {
	for k := from + 1; k <= to-1; k++ {
		if p[k] < length {
			return false
		}
	}
	return true
}

// widest goes through all rows that have at, and tells the one with the most places.
func widest(p []int, at, length int) (from, to int) {
	for f := 0; f <= at; f++ {
		for u := at + 1; u <= len(p); u++ {
			if isRow(p, f, u, length) && u-f > to-from {
				from, to = f, u
			}
		}
	}
	return from, to
}

// lengths tells lengths to ask p for: 0, each of its numbers, one less and one more, the greatest; those below 0 are errors.
func lengths(p []int) []int {
	l := row(0, 1, math.MaxInt)
	for _, n := range p {
		l = append(l, n, n-1, n+1)
	}
	slices.Sort(l)
	return slices.Compact(l)
}

// allGroups holds Group at each place of p, for its lengths.
func allGroups(t *testing.T, p []int) {
	t.Helper()
	for _, length := range lengths(p) {
		for at := range p {
			if length < 0 {
				holdsGroup(t, p, at, length, 0, 0, api.ErrArg)
				continue
			}
			from, to := widest(p, at, length)
			holdsGroup(t, p, at, length, from, to, api.OK)
		}
	}
}

// TestGroupOfAnyNumbers has also numbers p as no array has them: below 0, the greatest, the least.
func TestGroupOfAnyNumbers(t *testing.T) {
	hold := func(p []int) { allGroups(t, p) }
	eachList(6, row(0, 1, 2), hold)
	eachList(5, row(math.MinInt, -1, 0, math.MaxInt), hold)
	r := rand.New(rand.NewSource(176))
	for range 500 {
		allGroups(t, drawn(r, 15))
	}
	holdsGroup(t, row(math.MinInt, math.MaxInt, math.MaxInt), 1, math.MaxInt, 0, 3, api.OK)
	holdsGroup(t, row(math.MaxInt, math.MinInt, math.MaxInt), 1, math.MaxInt, 1, 3, api.OK)
	holdsGroup(t, row(9, -1, 9, -1), 0, 0, 0, 1, api.OK)
	holdsGroup(t, row(9, -1, 9, -1), 2, 0, 1, 3, api.OK)
	holdsGroup(t, row(-4, 5, 5), 2, 5, 0, 3, api.OK)
}

func TestGroupOfNoPlacesAndLengths(t *testing.T) {
	for _, p := range [][]int{nil, {}, make([]int, 0, 4), row(0), row(-5), row(0, 1, 2), row(0, 1, 0, 2), row(math.MaxInt, math.MinInt)} {
		for _, length := range row(math.MinInt, -2, -1, 0, 1, 2, math.MaxInt) {
			for _, none := range noPlaces(len(p)) {
				holdsGroup(t, p, none, length, 0, 0, api.ErrArg)
			}
			for place := range p {
				if length < 0 {
					holdsGroup(t, p, place, length, 0, 0, api.ErrArg)
				}
			}
		}
	}
}

// TestGroupKeepsToTheList has a list with numbers of others behind its end: they are no places, and no row goes on with them.
func TestGroupKeepsToTheList(t *testing.T) {
	p := withRoom(row(0, 3, 2), 9)
	holdsGroup(t, p, 1, 2, 0, 3, api.OK)
	holdsGroup(t, p, 2, 3, 2, 3, api.OK)
	holdsGroup(t, p, 3, 0, 0, 0, api.ErrArg)
}

func TestGroupOfLongLists(t *testing.T) {
	for _, size := range row(most, most+1, 100000) {
		p := made(size, itself)
		for _, at := range row(0, 1, size/2, size-2, size-1) {
			holdsGroup(t, p, at, 0, 0, size, api.OK)
			holdsGroup(t, p, at, 1, 0, size, api.OK)
			holdsGroup(t, p, at, math.MaxInt, at, at+1, api.OK)
			holdsGroup(t, p, at, size, at, at+1, api.OK)
		}
		holdsGroup(t, p, size-1, size-1, size-2, size, api.OK)
		holdsGroup(t, p, size-1, size/2, size/2-1, size, api.OK)
		holdsGroup(t, p, size/2-2, size/2, size/2-2, size/2-1, api.OK)
	}
}

// allThatShare holds Group of an array's p: all suffixes that have length numbers in common with the one at at; that one alone, if it has not so many.
func allThatShare(t *testing.T, l []int) {
	t.Helper()
	p, array := asReckoned(t, l)
	for at, place := range array {
		for length := range len(l) - place + 1 {
			from, to, e := common.Group(p, at, length)
			for k, other := range array {
				shares := k == at || inCommon(l, place, other) >= length
				if within := from <= k && k < to; e != api.OK || within != shares {
					t.Fatalf("P17.3: %v, %v, %v: Group of %d, %d is %d, %d, %d; at %d", l, array, p, at, length, from, to, e, k)
				}
			}
		}
		holdsGroup(t, p, at, len(l)-place+1, at, at+1, api.OK)
	}
}

func TestGroupHasAllThatShare(t *testing.T) {
	hold := func(l []int) { allThatShare(t, l) }
	eachList(8, row(0, 1), hold)
	eachList(5, row(1, 2, 3), hold)
	eachList(4, row(math.MinInt, -1, 0, math.MaxInt), hold)
	for _, l := range samples() {
		hold(l)
	}
	r := rand.New(rand.NewSource(177))
	for range 1000 {
		hold(drawn(r, 20))
	}
}

// rows tells of each place the row that Group tells at it for one length, and holds that these part all places, one behind the other.
func rows(t *testing.T, p []int, length int) []api.Block {
	t.Helper()
	of := make([]api.Block, len(p))
	next := 0
	for at := range p {
		from, to, e := common.Group(p, at, length)
		of[at] = api.Block{From: from, To: to}
		if e != api.OK || to <= at {
			t.Fatalf("What follows: %v, %d: the row at %d is %v, %d", few(p), length, at, of[at], e)
		}
		if at < next && of[at] != of[at-1] || at == next && from != at {
			t.Fatalf("What follows: %v, %d: the row at %d is %v, the one ahead ends at %d", few(p), length, at, of[at], next)
		}
		next = to
	}
	if next != len(p) {
		t.Fatalf("What follows: %v, %d: the rows end at %d", few(p), length, next)
	}
	return of
}

// parted holds that the rows of each length part all places, and that those of a greater length lie within them.
func parted(t *testing.T, p []int) {
	t.Helper()
	var wide []api.Block
	for _, length := range lengths(p) {
		if length < 0 {
			continue
		}
		narrow := rows(t, p, length)
		for at := range wide {
			if narrow[at].From < wide[at].From || narrow[at].To > wide[at].To {
				t.Fatalf("What follows: %v, %d: the row %v is not within %v", few(p), length, narrow[at], wide[at])
			}
		}
		wide = narrow
	}
}

func TestRowsPartTheArray(t *testing.T) {
	eachList(8, row(0, 1), func(l []int) {
		p, _ := asReckoned(t, l)
		parted(t, p)
	})
	for _, l := range samples() {
		p, _ := asReckoned(t, l)
		parted(t, p)
	}
	r := rand.New(rand.NewSource(178))
	for range 1000 {
		p, _ := asReckoned(t, drawn(r, 40))
		parted(t, p)
	}
	eachList(5, row(0, 1, 2), func(p []int) { parted(t, p) })
	eachList(4, row(math.MinInt, -1, 0, math.MaxInt), func(p []int) { parted(t, p) })
	for range 500 {
		parted(t, drawn(r, 20))
	}
}
