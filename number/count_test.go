package number_test

import (
	"math"
	"math/rand"
	"slices"
	"testing"

	"pleat/number"
)

func counted(t *testing.T, what string, want int, l ...int) {
	t.Helper()
	if got := number.Count(l); got != want {
		t.Fatalf("P15.3: %s: Count of %d numbers, %v .., is %d, not %d", what, len(l), l[:min(len(l), 40)], got, want)
	}
}

func TestCountOfFew(t *testing.T) {
	if n := number.Count([]int{}); n != 0 {
		t.Errorf("P15.3: Count of an empty list is %d", n)
	}
	for _, n := range row(0, 1, -1, 7, math.MaxInt, math.MinInt, 1<<32, -1<<31) {
		counted(t, "one number", 1, n)
		counted(t, "one number twice", 1, n, n)
		counted(t, "one number many times", 1, slices.Repeat(row(n), 1000)...)
		counted(t, "one number and the next one", 2, n, n+1)
		counted(t, "one number and the next one, again", 2, n, n+1, n+1, n)
		counted(t, "one number and another one", 2, n, 5, n, 5, 5)
	}
	counted(t, "the least and the greatest", 2, math.MinInt, math.MaxInt, math.MaxInt, math.MinInt)
	counted(t, "the least and the greatest with others", 5, math.MinInt, -1, 0, 1, math.MaxInt, 0, -1, math.MinInt)
	counted(t, "numbers with the same lowest bits", 4, 0, 1<<16, 1<<32, 1<<62, 1<<32)
	counted(t, "numbers and those below 0", 6, 1, -1, 2, -2, 3, -3, 1, -2)
	counted(t, "falling", 5, 9, 7, 5, 3, 1)
	counted(t, "numbers that are far greater than how many there are", 2, 1<<40, 1<<50, 1<<40)
}

// TestCountOfWhatComesAgain has numbers that come again at once, some places behind, and at the list's other end.
func TestCountOfWhatComesAgain(t *testing.T) {
	for size := 1; size <= 60; size++ {
		up := rising(size)
		down := slices.Clone(up)
		slices.Reverse(down)
		counted(t, "all unlike", size, up...)
		counted(t, "all unlike, falling", size, down...)
		counted(t, "each again behind all", size, slices.Concat(up, up)...)
		counted(t, "each again, the last one at once", size, slices.Concat(up, down)...)
		counted(t, "the first one at the end", size, append(slices.Clone(up), 0)...)
		counted(t, "one more at the end", size+1, append(slices.Clone(up), size)...)
		var pairs []int
		for _, n := range up {
			pairs = append(pairs, n, n)
		}
		counted(t, "each at once again", size, pairs...)
	}
}

func TestCountOfLongLists(t *testing.T) {
	const long = 1 << 20
	l := rising(long)
	counted(t, "all unlike", long, l...)
	for k := range l {
		l[k] = -(k % 1000)
	}
	counted(t, "a thousand", 1000, l...)
	l[long/2] = 1
	counted(t, "a thousand and one", 1001, l...)
	clear(l)
	l[long-1] = math.MinInt
	counted(t, "the last one is another one", 2, l...)
}

// reckonedCount counts the places ahead of which the same number does not stand.
func reckonedCount(l []int) int {
	count := 0
	for k, n := range l {
		if !slices.Contains(l[:k], n) {
			count++
		}
	}
	return count
}

func TestCountAsReckoned(t *testing.T) {
	r := rand.New(rand.NewSource(153))
	for range 20000 {
		l, most := make([]int, r.Intn(30)), 1+r.Intn(20)
		for k := range l {
			l[k] = r.Intn(most) - most/2
			if r.Intn(9) == 0 {
				l[k] = int(r.Uint64())
			}
		}
		counted(t, "a tossed list", reckonedCount(l), l...)
	}
}
