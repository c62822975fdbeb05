package suffix_test

import (
	"slices"
	"testing"

	"pleat/suffix"
)

// withRoom copies a list, with three more numbers of its own behind its end.
func withRoom(list []int, more int) []int {
	return append(append(make([]int, 0, len(list)+3), list...), more, more, more)[:len(list)]
}

// spoil writes over all of a list, its spare room too.
func spoil(l []int, with int) {
	l = l[:cap(l)]
	for k := range l {
		l[k] = with
	}
}

// samples tells lists for which Of makes one, two, three and more rounds: either of two lists of ranks is answered.
func samples() [][]int {
	return [][]int{
		row(8), row(2, 1), row(3, 1, 3, 1), row(7, 7, 7), row(1, 2, 1, 2, 0), row(1, 2, 3, 1, 2, 3, 1, 2),
		slices.Repeat(row(5), 9), slices.Repeat(row(5), 17), slices.Repeat(row(4, 5), 20), slices.Repeat(row(6), 70),
	}
}

func TestListsAreLeft(t *testing.T) {
	for _, kept := range samples() {
		l := withRoom(kept, -7)
		whole := slices.Clone(l[:cap(l)])
		for range 3 {
			asReckoned(t, l)
			for i := -1; i <= len(l); i++ {
				suffix.Compare(l, i, 0)
				suffix.Compare(l, len(l)-1, i)
			}
			if !slices.Equal(l[:cap(l)], whole) {
				t.Fatalf("R5: the list %v was changed: %v", whole, l[:cap(l)])
			}
		}
	}
}

// holdsSample holds an answer against the plain reckoning of the list that it was asked of.
func holdsSample(t *testing.T, what string, l []int, s suffix.Suffixes) {
	t.Helper()
	array := reckoned(l)
	if !slices.Equal(s.Array, array) || !slices.Equal(s.Rank, inverse(array)) {
		t.Fatalf("%s: %v: %v, not %v", what, l, s, array)
	}
}

func TestAnswersAreNew(t *testing.T) {
	for _, kept := range samples() {
		l := withRoom(kept, -7)
		whole := slices.Clone(l[:cap(l)])
		s, again, third := suffix.Of(l), suffix.Of(l), suffix.Of(l)
		spoil(s.Array, 12345)
		holdsSample(t, "R5: an answer's Rank has memory of its Array", kept, suffix.Suffixes{Array: again.Array, Rank: s.Rank})
		spoil(again.Rank, 54321)
		holdsSample(t, "R5: an answer's Array has memory of its Rank", kept, suffix.Suffixes{Array: again.Array, Rank: s.Rank})
		spoil(s.Rank, 12345)
		spoil(again.Array, 54321)
		if !slices.Equal(l[:cap(l)], whole) {
			t.Fatalf("R5: an answer has memory of the list: %v", l[:cap(l)])
		}
		spoil(l, 99)
		holdsSample(t, "R5: an answer has memory of another one, or of the list", kept, third)
		asReckoned(t, l)
	}
}

// TestNothingIsKept asks lists one behind the other: each is answered as if it were the first, its Cost too.
func TestNothingIsKept(t *testing.T) {
	var first []suffix.Suffixes
	for _, l := range samples() {
		first = append(first, suffix.Of(l))
	}
	for range 20 {
		for k, l := range samples() {
			s := suffix.Of(l)
			if !slices.Equal(s.Array, first[k].Array) || !slices.Equal(s.Rank, first[k].Rank) || s.Cost != first[k].Cost {
				t.Fatalf("R6: %v: %v, not %v", l, s, first[k])
			}
		}
	}
}
