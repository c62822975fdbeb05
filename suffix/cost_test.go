package suffix_test

import (
	"math"
	"math/bits"
	"math/rand"
	"slices"
	"strconv"
	"testing"

	"pleat/suffix"
)

const most = 16384 // MaxText

// bound tells what P16.2 says of a length from 1 to MaxText, its bits counted by halving.
func bound(n int) int {
	b := 1
	for rest := n; rest > 0; rest /= 2 {
		b++
	}
	return 6 * n * b * b
}

// costs holds the bounds of Cost: of lists of at most MaxText numbers those of P16.1.
func costs(t *testing.T, what string, l []int, cost int) {
	t.Helper()
	switch size := len(l); {
	case size == 0 && cost != 0:
		t.Fatalf("P16.1: %s: Cost of nothing is %d", what, cost)
	case size > 0 && size <= most && (cost < size-1 || cost > bound(size)):
		t.Fatalf("P16.1: %s: Cost of %d numbers, %v .., is %d, not from %d to %d", what, size, few(l), cost, size-1, bound(size))
	case cost < 0:
		t.Fatalf("P16.1: %s: Cost of %d numbers is %d", what, size, cost)
	}
}

func TestMost(t *testing.T) {
	for n, want := range map[int]int{
		math.MinInt: 0, math.MinInt32: 0, -16384: 0, -5: 0, -1: 0, 0: 0,
		1: 24, 2: 108, 3: 162, 4: 384, 5: 480, 7: 672, 8: 1200, 9: 1350, 15: 2250, 16: 3456,
		8191: 6 * 8191 * 14 * 14, 8192: 6 * 8192 * 15 * 15, 8193: 6 * 8193 * 15 * 15,
		16383: 6 * 16383 * 15 * 15, 16384: 6 * 16384 * 16 * 16,
		16385: 0, 16386: 0, 32768: 0, 1 << 31: 0, 1 << 40: 0, math.MaxInt: 0,
	} {
		if got := suffix.Most(n); got != want {
			t.Errorf("P16.2: Most of %d is %d, not %d", n, got, want)
		}
	}
	for n := 1; n <= most; n++ {
		if got := suffix.Most(n); got != bound(n) {
			t.Fatalf("P16.2: Most of %d is %d, not %d", n, got, bound(n))
		}
	}
}

// fibonacci tells a list of two numbers, each beginning of which comes again as late as can be.
func fibonacci(size int) []int {
	a, b := row(0), row(0, 1)
	for len(b) < size {
		a, b = b, append(slices.Clone(b), a...)
	}
	return b[:size]
}

// unlikeAt tells a list of noughts, but for one place.
func unlikeAt(size, place, number int) []int {
	l := make([]int, size)
	l[place] = number
	return l
}

// kinds tells lists of that size, of kinds that ask for many rounds, or for many comparisons in one.
func kinds(size int) map[string][]int {
	r := rand.New(rand.NewSource(int64(size)))
	l := map[string][]int{
		"one number many times": made(size, func(int) int { return 4 }),
		"rising":                made(size, itself),
		"falling":               made(size, func(k int) int { return -k }),
		"the end less":          unlikeAt(size, size-1, -1),
		"the end greater":       unlikeAt(size, size-1, 1),
		"the middle greater":    unlikeAt(size, size/2, 1),
		"blocks":                made(size, func(k int) int { return k / 100 % 7 }),
		"blocks that fall":      made(size, func(k int) int { return -(k / 100) }),
		"fibonacci":             fibonacci(size),
		"bits of places":        made(size, func(k int) int { return bits.OnesCount(uint(k)) % 2 }),
		"noughts of places":     made(size, func(k int) int { return bits.TrailingZeros(uint(k + 1)) }),
		"places turned":         made(size, func(k int) int { return int(bits.Reverse16(uint16(k))) }),
		"up and down":           made(size, func(k int) int { return min(k, size-k) }),
		"drawn of two":          made(size, func(int) int { return r.Intn(2) }),
		"drawn of many":         made(size, func(int) int { return int(r.Uint64()) }),
		"drawn once each":       r.Perm(size),
	}
	for _, period := range row(2, 3, 4, 5, 7, 8, 16, 17, 100, 127, 128, 1000, 1024, 4095, 8191, 8192) {
		name := "a period of " + strconv.Itoa(period)
		l[name+", rising"] = made(size, func(k int) int { return k % period })
		l[name+", one unlike"] = made(size, func(k int) int { return k % period / (period - 1) })
		letters := made(period, func(int) int { return r.Intn(3) })
		l[name+", drawn"] = made(size, func(k int) int { return letters[k%period] })
	}
	return l
}

func TestListsAtTheLimit(t *testing.T) {
	for _, size := range row(most, most-1) {
		for what, l := range kinds(size) {
			s := holdsOrdered(t, what, l)
			costs(t, what, l, s.Cost)
		}
	}
}

func TestCostOfAllShortLengths(t *testing.T) {
	for size := 1; size <= 130; size++ {
		for what, l := range kinds(size) {
			s := holdsOrdered(t, what, l)
			costs(t, what, l, s.Cost)
		}
	}
}

// TestLongerLists has lists beyond MaxText: their order is as that of others, Cost is only not below 0.
func TestLongerLists(t *testing.T) {
	for _, size := range row(most+1, 40000) {
		for what, l := range kinds(size) {
			s := holdsOrdered(t, what, l)
			costs(t, what, l, s.Cost)
		}
	}
	l := slices.Repeat(row(7), 1<<18)
	costs(t, "one number, far beyond", l, holdsOrdered(t, "one number, far beyond", l).Cost)
}
