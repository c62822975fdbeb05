package suffix_test

import (
	"math"
	"slices"
	"testing"

	"pleat/suffix"
)

func row(numbers ...int) []int { return numbers }

// made tells a list of that size, whose number at each place of answers.
func made(size int, of func(place int) int) []int {
	l := make([]int, size)
	for place := range l {
		l[place] = of(place)
	}
	return l
}

func itself(n int) int { return n }

// turned tells the numbers from one less than size down to 0.
func turned(size int) []int { return made(size, func(k int) int { return size - 1 - k }) }

// few tells a list's beginning, so that what failed can be read.
func few(l []int) []int { return l[:min(len(l), 40)] }

// suffixed holds Array, Rank and the bounds of Cost.
func suffixed(t *testing.T, what string, l, array, rank []int) {
	t.Helper()
	s := suffix.Of(l)
	if !slices.Equal(s.Array, array) {
		t.Errorf("P16.1: %s: Array of %v is %v, not %v", what, few(l), few(s.Array), few(array))
	}
	if !slices.Equal(s.Rank, rank) {
		t.Errorf("P16.1: %s: Rank of %v is %v, not %v", what, few(l), few(s.Rank), few(rank))
	}
	costs(t, what, l, s.Cost)
}

func TestExamples(t *testing.T) {
	suffixed(t, "the first one", row(3, 1, 3, 1), row(3, 1, 2, 0), row(3, 1, 2, 0))
	suffixed(t, "the second one", row(7, 7, 7), row(2, 1, 0), row(2, 1, 0))
	suffixed(t, "the third one", row(-5), row(0), row(0))
	suffixed(t, "the fourth one", row(1, 2, 1, 2, 0), row(4, 2, 0, 3, 1), row(2, 4, 1, 3, 0))
}

func TestNothing(t *testing.T) {
	for what, l := range map[string][]int{"nil": nil, "empty": {}, "empty, with room": make([]int, 0, 5)} {
		if s := suffix.Of(l); len(s.Array) != 0 || len(s.Rank) != 0 || s.Cost != 0 {
			t.Errorf("P16.1, R4: Of a list that is %s: %v", what, s)
		}
	}
}

func TestOneNumber(t *testing.T) {
	for _, n := range row(0, 1, -1, 7, math.MaxInt, math.MinInt) {
		suffixed(t, "one number", row(n), row(0), row(0))
		suffixed(t, "one number twice", row(n, n), row(1, 0), row(1, 0))
		for _, size := range row(3, 4, 5, 7, 8, 9, 31, 32, 33, 100, 1000) {
			suffixed(t, "one number many times", slices.Repeat(row(n), size), turned(size), turned(size))
		}
	}
}

func TestNumbersThatRiseAndFall(t *testing.T) {
	for _, size := range row(2, 3, 4, 5, 8, 9, 100, 1000) {
		suffixed(t, "rising", made(size, itself), made(size, itself), made(size, itself))
		suffixed(t, "rising from below 0 on", made(size, func(k int) int { return 3*k - size }), made(size, itself), made(size, itself))
		suffixed(t, "falling", turned(size), turned(size), turned(size))
		suffixed(t, "falling from 0 on", made(size, func(k int) int { return -k }), turned(size), turned(size))
	}
}

// TestTwoThatChangeAbout has lists of two numbers by turns: those of the lesser number are ahead, of each number's the shorter ones.
func TestTwoThatChangeAbout(t *testing.T) {
	suffixed(t, "even, the lesser one first", row(1, 2, 1, 2, 1, 2), row(4, 2, 0, 5, 3, 1), row(2, 5, 1, 4, 0, 3))
	suffixed(t, "odd, the lesser one first", row(1, 2, 1, 2, 1), row(4, 2, 0, 3, 1), row(2, 4, 1, 3, 0))
	suffixed(t, "even, the greater one first", row(2, 1, 2, 1, 2, 1), row(5, 3, 1, 4, 2, 0), row(5, 2, 4, 1, 3, 0))
	suffixed(t, "odd, the greater one first", row(2, 1, 2, 1, 2), row(3, 1, 4, 2, 0), row(4, 1, 3, 0, 2))
	for _, size := range row(2, 3, 16, 17, 99, 100, 1024, 1025) {
		l := made(size, func(k int) int { return k % 2 })
		var array []int
		for _, parity := range row(0, 1) {
			for place := size - 1; place >= 0; place-- {
				if place%2 == parity {
					array = append(array, place)
				}
			}
		}
		suffixed(t, "many", l, array, inverse(array))
	}
}

func TestNumbersAtTheirEnds(t *testing.T) {
	const greatest, least = math.MaxInt, math.MinInt
	suffixed(t, "the greatest first", row(greatest, least), row(1, 0), row(1, 0))
	suffixed(t, "the least first", row(least, greatest), row(0, 1), row(0, 1))
	suffixed(t, "the least at the end", row(0, greatest, -1, least), row(3, 2, 0, 1), row(2, 3, 1, 0))
	suffixed(t, "the least again and again", row(least, least, greatest, least), row(3, 0, 1, 2), row(1, 2, 3, 0))
	suffixed(t, "the greatest again and again", row(greatest, greatest, least, greatest), row(2, 3, 1, 0), row(3, 2, 0, 1))
	suffixed(t, "both, and their neighbours", row(greatest-1, least+1, greatest, least, 0), row(3, 1, 4, 0, 2), row(3, 1, 4, 0, 2))
	suffixed(t, "both by turns", row(greatest, least, greatest, least), row(3, 1, 2, 0), row(3, 1, 2, 0))
	suffixed(t, "below 0", row(-1, -2, -1, -3), row(3, 1, 2, 0), row(3, 1, 2, 0))
	suffixed(t, "with the same lowest bits", row(1<<32, 0, 1<<62, 1<<16), row(1, 3, 0, 2), row(2, 0, 3, 1))
	suffixed(t, "below 0, as far as above", row(-7, 7, 0, -7, 7), row(3, 0, 2, 4, 1), row(1, 4, 2, 0, 3))
}

// TestOneIsAnothersBeginning has suffixes that begin as longer ones do: the shorter ones are the lesser ones, whatever number comes next in the longer ones.
func TestOneIsAnothersBeginning(t *testing.T) {
	for _, next := range row(math.MinInt, -1, 0, 1, math.MaxInt) {
		l := row(5, 6, next, 5, 6)
		s := suffix.Of(l)
		if s.Rank[3] >= s.Rank[0] || s.Rank[4] >= s.Rank[1] || suffix.Compare(l, 3, 0) != -1 || suffix.Compare(l, 1, 4) != 1 {
			t.Errorf("P16.1, P16.3: %v: %v: the shorter suffix is the lesser one", l, s)
		}
	}
	suffixed(t, "a word, three times", row(2, 1, 3, 2, 1, 3, 2, 1, 3), row(7, 4, 1, 6, 3, 0, 8, 5, 2), row(5, 2, 8, 4, 1, 7, 3, 0, 6))
}
