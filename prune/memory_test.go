package prune_test

import (
	"math/rand"
	"slices"
	"testing"

	"pleat/api"
	"pleat/prune"
)

// withRoom copies a list, with three more spots of its own behind its end.
func withRoom(l []api.Spot) []api.Spot {
	more := api.Spot{At: -1, Class: 7, Reg: 7}
	return append(append(make([]api.Spot, 0, len(l)+3), l...), more, more, more)[:len(l)]
}

// whole tells a list with its spare room.
func whole(l []api.Spot) []api.Spot { return l[:cap(l)] }

// spoil writes over all of a list, its spare room too.
func spoil(l []api.Spot) {
	for k := range whole(l) {
		whole(l)[k] = api.Spot{At: 3, Class: 9, Reg: 9}
	}
}

// asked is a list, and what is known of it.
type asked struct {
	n     int
	l     []api.Spot
	which []int
	pairs int
}

func samples() []asked {
	var all []asked
	for _, places := range [][]int{{0, 3, 6, 9, 12}, {12, 9, 6, 3, 0}, {5, 3, 9, 7, 5}, {0, 1, 2, 3, 4, 5, 6, 7, 8}, {8, 2}, {4}, {2, 2, 2}, {0, 16384, 8192}} {
		for _, n := range []int{1, 3, 4, 100} {
			l := at(places...)
			which, pairs := reckoned(n, l)
			all = append(all, asked{n, l, which, pairs})
		}
	}
	return all
}

// holds holds all that is known of a sample, told by l.
func (a asked) holds(t *testing.T, what string, l []api.Spot) {
	t.Helper()
	apart(t, what, a.n, l, a.which...)
	overlaps(t, what, a.n, l, a.pairs)
}

func TestArgumentsAreLeft(t *testing.T) {
	for _, a := range samples() {
		for _, n := range []int{a.n, 0, -1, 16385} {
			l := withRoom(a.l)
			prune.Apart(n, l)
			if kept := withRoom(a.l); !slices.Equal(whole(l), whole(kept)) {
				t.Fatalf("R5: Apart of %d changed the list to %v, it was %v", n, whole(l), whole(kept))
			}
			prune.Overlaps(n, l)
			if kept := withRoom(a.l); !slices.Equal(whole(l), whole(kept)) {
				t.Fatalf("R5: Overlaps of %d changed the list to %v, it was %v", n, whole(l), whole(kept))
			}
		}
		a.holds(t, "with room behind it", withRoom(a.l))
	}
}

// TestAnswersAreNew writes over what is told and what was handed in, and holds another answer.
func TestAnswersAreNew(t *testing.T) {
	for _, a := range samples() {
		l, want := withRoom(a.l), picked(a.l, a.which...)
		first, second := prune.Apart(a.n, l), prune.Apart(a.n, l)
		spoil(first)
		if !slices.Equal(second, want) {
			t.Fatalf("R5: two answers share memory: %v, not %v", second, want)
		}
		if kept := withRoom(a.l); !slices.Equal(whole(l), whole(kept)) {
			t.Fatalf("R5: an answer has memory of the list: it is %v now, it was %v", whole(l), whole(kept))
		}
		spoil(l)
		if !slices.Equal(second, want) {
			t.Fatalf("R5: an answer has memory of what was handed in: %v, not %v", second, want)
		}
		first = append(first, api.Spot{At: 1})
		a.holds(t, "behind a spoilt answer", a.l)
	}
}

// TestNothingIsKept asks lists one behind the other, wrong ones between them, in the same memory: each is answered as if it were the first.
func TestNothingIsKept(t *testing.T) {
	r := rand.New(rand.NewSource(203))
	all := samples()
	memory := make([]api.Spot, 20)
	for range 500 {
		a := oneOf(r, all...)
		l := memory[:copy(memory, a.l)]
		a.holds(t, "between others", l)
		none(t, "no length", 0, l)
		l[r.Intn(len(l))].At = oneOf(r, -1, 16385)
		none(t, "no place", a.n, l)
		copy(l, a.l)
		a.holds(t, "behind others", l)
	}
}
