package edge_test

import (
	"math"
	"math/rand"
	"slices"
	"testing"

	"pleat/edge"
)

func TestBackOfFewLists(t *testing.T) {
	backs(t, "no lists", nil)
	backs(t, "no lists, but not nil", lists())
	backs(t, "one nil list", lists(nil), nil)
	backs(t, "one empty list", lists(to()), nil)
	backs(t, "nil and empty lists", lists(nil, to(), nil), nil, nil, nil)
	backs(t, "one list that has itself", lists(to(0)), to(0))
	backs(t, "lists that have themselves", lists(to(0), to(1), to(2)), to(0), to(1), to(2))
	backs(t, "lists that have the next one", lists(to(1), to(2), to(0)), to(2), to(0), to(1))
	backs(t, "one that all have", lists(to(1), to(1), to(1), nil), nil, to(0, 1, 2), nil, nil)
	backs(t, "one that has all", lists(nil, to(0, 1, 2), nil), to(1), to(1), to(1))
	backs(t, "all that have all", lists(to(0, 1, 2), to(0, 1, 2), to(0, 1, 2)), to(0, 1, 2), to(0, 1, 2), to(0, 1, 2))
}

func TestBackOfAnyLists(t *testing.T) {
	backs(t, "falling numbers", lists(to(2, 1, 0), to(2, 0), to(1)), to(0, 1), to(0, 2), to(0, 1))
	backs(t, "a number twice", lists(to(1, 1), to(1, 1, 1)), nil, to(0, 1))
	backs(t, "a number twice, others between", lists(to(0, 1, 0, 1, 0), to(1, 0, 1)), to(0, 1), to(0, 1))
	backs(t, "numbers below 0", lists(to(-1, 0), to(-2, -1), to(math.MinInt)), to(0), nil, nil)
	backs(t, "numbers of no list", lists(to(2, 1), to(3, 2, 0), to(4, 3, math.MaxInt)), to(1), to(0), to(0, 1))
	backs(t, "one list of numbers of none", lists(to(1, -1, 2)), nil)
	backs(t, "numbers that go round", lists(to(1<<32, 1<<32+1, -1<<32, math.MaxInt, math.MinInt), nil), nil, nil)
}

// reckonedBack asks each list for each number.
func reckonedBack(l [][]int) [][]int {
	back := make([][]int, len(l))
	for k := range back {
		for n := range l {
			if slices.Contains(l[n], k) {
				back[k] = append(back[k], n)
			}
		}
	}
	return back
}

func tossedLists(r *rand.Rand) [][]int {
	l := make([][]int, r.Intn(8))
	for k := range l {
		for range r.Intn(7) {
			l[k] = append(l[k], r.Intn(len(l)+4)-2)
		}
	}
	return l
}

func TestBackAsReckoned(t *testing.T) {
	r := rand.New(rand.NewSource(122))
	for range 30000 {
		l := tossedLists(r)
		want := reckonedBack(l)
		if got := edge.Back(l); !alike(got, want) {
			t.Fatalf("P12.2: Back of %v is %v, not %v", l, got, want)
		}
	}
}

// TestBackOfManyLists has a number that all lists have, and lists that have nothing else but their next one.
func TestBackOfManyLists(t *testing.T) {
	const many = 200000
	l := make([][]int, many)
	for k := range l {
		l[k] = to((k+1)%many, 7, 7)
	}
	got := edge.Back(l)
	if len(got) != many || len(got[7]) != many {
		t.Fatalf("P12.2: %d lists", len(got))
	}
	for k, list := range got {
		if k != 7 && !slices.Equal(list, to((k+many-1)%many)) || got[7][k] != k {
			t.Fatalf("P12.2: the list %d of many is %v; the number 7 is the list %d's", k, list, got[7][k])
		}
	}
}
