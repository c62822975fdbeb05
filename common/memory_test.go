package common_test

import (
	"slices"
	"testing"

	"pleat/api"
	"pleat/common"
)

// withRoom copies a list, with three more numbers of its own behind its end.
func withRoom(list []int, more int) []int {
	return append(append(make([]int, 0, len(list)+3), list...), more, more, more)[:len(list)]
}

// spoil writes over all of a list, its spare room too.
func spoil(l []int, with int) {
	l = l[:cap(l)]
	for k := range l {
		l[k] = with
	}
}

// samples tells lists of some lengths, with much in common and with nothing.
func samples() [][]int {
	return [][]int{
		row(8), row(2, 1), row(3, 1, 3, 1), row(7, 7, 7), row(1, 2, 1, 2, 0), row(1, 2, 3, 1, 2, 3, 1, 2),
		slices.Repeat(row(5), 9), slices.Repeat(row(5), 17), slices.Repeat(row(4, 5), 20), fibonacci(30),
	}
}

func TestListsAreLeft(t *testing.T) {
	for _, kept := range samples() {
		l, array := withRoom(kept, -7), withRoom(reckoned(kept), -8)
		p := withRoom(neighbours(kept, array), -9)
		whole := slices.Concat(l[:cap(l)], array[:cap(array)], p[:cap(p)])
		left := func(what string) {
			t.Helper()
			if now := slices.Concat(l[:cap(l)], array[:cap(array)], p[:cap(p)]); !slices.Equal(now, whole) {
				t.Fatalf("R5: %s changed a list that it was given: %v, not %v", what, now, whole)
			}
		}
		for range 3 {
			common.Prefixes(l, array)
			left("Prefixes")
			common.Prefixes(array, l)
			common.Prefixes(l, array[:len(array)-1])
			common.Prefixes(l[:len(l)-1], array)
			left("Prefixes that refused")
			for at := -1; at <= len(p); at++ {
				common.Least(p, at, 0)
				common.Least(p, len(p)-1, at)
				left("Least")
				common.Group(p, at, 1)
				common.Group(p, at, -1)
				left("Group")
			}
		}
	}
}

func TestAnswersAreNew(t *testing.T) {
	for _, kept := range samples() {
		l, array := withRoom(kept, -7), withRoom(reckoned(kept), -8)
		want, wholeList, wholeArray := neighbours(kept, array), slices.Clone(l[:cap(l)]), slices.Clone(array[:cap(array)])
		first, _, _ := common.Prefixes(l, array)
		second, _, _ := common.Prefixes(l, array)
		spoil(first, 12345)
		if !slices.Equal(l[:cap(l)], wholeList) || !slices.Equal(array[:cap(array)], wholeArray) {
			t.Fatalf("R5: an answer has memory of what was handed in: %v, %v", l[:cap(l)], array[:cap(array)])
		}
		spoil(l, 99)
		spoil(array, 98)
		if !slices.Equal(second, want) {
			t.Fatalf("R5: an answer has memory of another one, or of what was handed in: %v, not %v", second, want)
		}
		third, _, e := common.Prefixes(kept, reckoned(kept))
		if spoil(second, 54321); e != api.OK || !slices.Equal(third, want) {
			t.Fatalf("R5: an answer has memory of an earlier one: %v, %d, not %v", third, e, want)
		}
	}
}

// TestOneListForBoth hands in one list as list and as array: that of numbers that rise is its own array.
func TestOneListForBoth(t *testing.T) {
	for _, size := range row(1, 2, 3, 10) {
		l := made(size, itself)
		p, _, e := common.Prefixes(l, l)
		if e != api.OK || !slices.Equal(p, make([]int, size)) || !slices.Equal(l, made(size, itself)) {
			t.Errorf("P17.1: %v is its own array: %v, %d", l, p, e)
		}
		if spoil(p, 5); !slices.Equal(l, made(size, itself)) {
			t.Errorf("R5: %v: p has memory of it", l)
		}
	}
	refused(t, "a list that is not its own array", row(1, 0, 1), row(1, 0, 1))
}

// TestNothingIsKept asks lists one behind the other, wrong arrays between them: each is answered as if it were the first, its cost too.
func TestNothingIsKept(t *testing.T) {
	type answer struct {
		p    []int
		cost int
	}
	var first []answer
	for _, l := range samples() {
		p, cost, _ := common.Prefixes(l, reckoned(l))
		first = append(first, answer{p, cost})
	}
	for range 20 {
		for k, l := range samples() {
			p, cost, e := common.Prefixes(l, reckoned(l))
			if e != api.OK || !slices.Equal(p, first[k].p) || cost != first[k].cost {
				t.Fatalf("R6: %v: %v, %d, %d, not %v", l, p, cost, e, first[k])
			}
			refused(t, "a wrong one between others", l, nil)
		}
	}
}
