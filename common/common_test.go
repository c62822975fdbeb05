package common_test

import (
	"math"
	"slices"
	"testing"

	"pleat/api"
	"pleat/common"
	"pleat/suffix"
)

func row(numbers ...int) []int { return numbers }

// made tells a list of that size, whose number at each place of answers.
func made(size int, of func(place int) int) []int {
	l := make([]int, size)
	for place := range l {
		l[place] = of(place)
	}
	return l
}

func itself(n int) int { return n }

// turned tells the numbers from one less than size down to 0.
func turned(size int) []int { return made(size, func(k int) int { return size - 1 - k }) }

// few tells a list's beginning, so that what failed can be read.
func few(l []int) []int { return l[:min(len(l), 40)] }

// prefixed holds p, and the bounds of cost, of a list and the array that is written out for it.
func prefixed(t *testing.T, what string, l, array, want []int) {
	t.Helper()
	p, cost, e := common.Prefixes(l, array)
	if e != api.OK || !slices.Equal(p, want) {
		t.Errorf("P17.1: %s: Prefixes of %v and %v is %v, %d, not %v", what, few(l), few(array), few(p), e, few(want))
	}
	costs(t, what, l, cost)
}

// refused holds that an array is not taken for that of a list.
func refused(t *testing.T, what string, l, array []int) {
	t.Helper()
	if p, cost, e := common.Prefixes(l, array); e != api.ErrArg || len(p) != 0 || cost != 0 {
		t.Fatalf("P17.1, R2: %s: Prefixes of %v and %v is %v, %d, %d", what, few(l), few(array), few(p), cost, e)
	}
}

func TestExamplesOfPrefixes(t *testing.T) {
	prefixed(t, "the first one", row(3, 1, 3, 1), row(3, 1, 2, 0), row(0, 1, 0, 2))
	refused(t, "the second one", row(3, 1, 3, 1), row(0, 1, 2, 3))
	prefixed(t, "the third one", row(7, 7, 7), row(2, 1, 0), row(0, 1, 2))
	prefixed(t, "the fourth one", row(), row(), row())
	prefixed(t, "one of chapter 16", row(1, 2, 1, 2, 0), row(4, 2, 0, 3, 1), row(0, 0, 2, 0, 1))
}

func TestPrefixesOfNothing(t *testing.T) {
	nothings := map[string][]int{"nil": nil, "empty": {}, "empty, with room": make([]int, 0, 5)}
	for of, l := range nothings {
		for and, array := range nothings {
			if p, cost, e := common.Prefixes(l, array); e != api.OK || len(p) != 0 || cost != 0 {
				t.Errorf("P17.1, R4: Prefixes of lists that are %s and %s: %v, %d, %d", of, and, p, cost, e)
			}
		}
		for _, number := range row(math.MinInt, -1, 0, 1, math.MaxInt) {
			refused(t, of, l, row(number))
			refused(t, of, row(number), l)
		}
	}
}

func TestPrefixesOfOneNumber(t *testing.T) {
	for _, n := range row(0, 1, -1, 7, math.MaxInt, math.MinInt) {
		prefixed(t, "one number", row(n), row(0), row(0))
		prefixed(t, "one number twice", row(n, n), row(1, 0), row(0, 1))
		for _, size := range row(3, 4, 5, 7, 8, 9, 31, 32, 33, 100, 1000) {
			prefixed(t, "one number many times", slices.Repeat(row(n), size), turned(size), made(size, itself))
		}
	}
}

func TestPrefixesOfNumbersThatRiseAndFall(t *testing.T) {
	for _, size := range row(2, 3, 4, 5, 8, 9, 100, 1000) {
		prefixed(t, "rising", made(size, itself), made(size, itself), make([]int, size))
		prefixed(t, "rising from below 0 on", made(size, func(k int) int { return 3*k - size }), made(size, itself), make([]int, size))
		prefixed(t, "falling", turned(size), turned(size), make([]int, size))
		prefixed(t, "falling from 0 on", made(size, func(k int) int { return -k }), turned(size), make([]int, size))
	}
}

// TestPrefixesOfTwoThatChangeAbout has lists of two numbers by turns: each suffix but the two shortest ones has the whole of the one ahead in common with it.
func TestPrefixesOfTwoThatChangeAbout(t *testing.T) {
	prefixed(t, "even, the lesser one first", row(1, 2, 1, 2, 1, 2), row(4, 2, 0, 5, 3, 1), row(0, 2, 4, 0, 1, 3))
	prefixed(t, "odd, the lesser one first", row(1, 2, 1, 2, 1), row(4, 2, 0, 3, 1), row(0, 1, 3, 0, 2))
	prefixed(t, "even, the greater one first", row(2, 1, 2, 1, 2, 1), row(5, 3, 1, 4, 2, 0), row(0, 1, 3, 0, 2, 4))
	prefixed(t, "odd, the greater one first", row(2, 1, 2, 1, 2), row(3, 1, 4, 2, 0), row(0, 2, 0, 1, 3))
	for _, size := range row(2, 3, 16, 17, 99, 100, 1024, 1025) {
		var array, want []int
		for _, parity := range row(0, 1) {
			for place := size - 1; place >= 0; place-- {
				if place%2 != parity {
					continue
				}
				array = append(array, place)
				if place >= size-2 {
					want = append(want, 0)
				} else {
					want = append(want, size-2-place)
				}
			}
		}
		prefixed(t, "many", made(size, func(k int) int { return k % 2 }), array, want)
	}
}

func TestPrefixesOfNumbersAtTheirEnds(t *testing.T) {
	const greatest, least = math.MaxInt, math.MinInt
	prefixed(t, "the greatest first", row(greatest, least), row(1, 0), row(0, 0))
	prefixed(t, "the least first", row(least, greatest), row(0, 1), row(0, 0))
	prefixed(t, "the least again and again", row(least, least, greatest, least), row(3, 0, 1, 2), row(0, 1, 1, 0))
	prefixed(t, "the greatest again and again", row(greatest, greatest, least, greatest), row(2, 3, 1, 0), row(0, 0, 1, 1))
	prefixed(t, "both, and their neighbours", row(greatest-1, least+1, greatest, least, 0), row(3, 1, 4, 0, 2), make([]int, 5))
	prefixed(t, "both by turns", row(greatest, least, greatest, least), row(3, 1, 2, 0), row(0, 1, 0, 2))
	prefixed(t, "with the same lowest bits", row(1<<32, 0, 1<<62, 1<<16), row(1, 3, 0, 2), make([]int, 4))
	prefixed(t, "below 0, as far as above", row(-7, 7, 0, -7, 7), row(3, 0, 2, 4, 1), row(0, 2, 0, 0, 1))
}

// TestPrefixesThatEndAndThatDiffer has suffixes that are whole beginnings of the next ones, and such as differ behind what they have in common, whatever number that is.
func TestPrefixesThatEndAndThatDiffer(t *testing.T) {
	prefixed(t, "a word, three times", row(2, 1, 3, 2, 1, 3, 2, 1, 3), row(7, 4, 1, 6, 3, 0, 8, 5, 2), row(0, 2, 5, 0, 3, 6, 0, 1, 4))
	for _, next := range row(math.MinInt, -1, 0, 1, 4) {
		prefixed(t, "less behind it", row(5, 6, next, 5, 6), row(2, 3, 0, 4, 1), row(0, 0, 2, 0, 1))
	}
	for _, next := range row(7, 8, math.MaxInt) {
		prefixed(t, "greater behind it", row(5, 6, next, 5, 6), row(3, 0, 4, 1, 2), row(0, 2, 0, 1, 0))
	}
	prefixed(t, "two that differ", row(5, 5, 1, 5, 5, 2), row(2, 5, 1, 4, 0, 3), row(0, 0, 0, 1, 1, 2))
}

// TestListsKeepToTheirEnds has lists with numbers of others behind their ends: no suffix goes on with them, and no array.
func TestListsKeepToTheirEnds(t *testing.T) {
	for _, behind := range row(-9, 0, 1, 5, 9) {
		prefixed(t, "with room", withRoom(row(5, 6, 5), behind), withRoom(row(2, 0, 1), behind), row(0, 1, 0))
		prefixed(t, "one number, with room", withRoom(row(5, 5, 5), behind), withRoom(row(2, 1, 0), behind), row(0, 1, 2))
	}
	l := row(5, 6, 5, 7)
	array := suffix.Of(l).Array
	refused(t, "an array that goes on behind its end", l, array[:3])
	refused(t, "a list that goes on behind its end", l[:3], array)
}
