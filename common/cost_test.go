package common_test

import (
	"math/bits"
	"math/rand"
	"slices"
	"strconv"
	"testing"

	"pleat/api"
	"pleat/common"
	"pleat/suffix"
)

const most = 16384 // MaxText

// bound tells the most that P17.1 lets cost be of a length from 1 to MaxText, its bits counted by halving.
func bound(n int) int {
	b := 1
	for rest := n; rest > 0; rest /= 2 {
		b++
	}
	return 2 * n * b * b
}

// costs holds the bounds of cost: of lists of at most MaxText numbers those of P17.1.
func costs(t *testing.T, what string, l []int, cost int) {
	t.Helper()
	switch size := len(l); {
	case size == 0 && cost != 0:
		t.Fatalf("P17.1: %s: cost of nothing is %d", what, cost)
	case size > 0 && size <= most && (cost < size-1 || cost > bound(size)):
		t.Fatalf("P17.1: %s: cost of %d numbers, %v .., is %d, not from %d to %d", what, size, few(l), cost, size-1, bound(size))
	case cost < 0:
		t.Fatalf("P17.1: %s: cost of %d numbers is %d", what, size, cost)
	}
}

// fibonacci tells a list of two numbers, each beginning of which comes again as late as can be.
func fibonacci(size int) []int {
	a, b := row(0), row(0, 1)
	for len(b) < size {
		a, b = b, append(slices.Clone(b), a...)
	}
	return b[:size]
}

// unlikeAt tells a list of noughts, but for one place.
func unlikeAt(size, place, number int) []int {
	l := make([]int, size)
	l[place] = number
	return l
}

// kinds tells lists of that size, of kinds that have much in common, or little, or much by turns.
func kinds(size int) map[string][]int {
	r := rand.New(rand.NewSource(int64(size)))
	l := map[string][]int{
		"one number many times": made(size, func(int) int { return 4 }),
		"rising":                made(size, itself),
		"falling":               made(size, func(k int) int { return -k }),
		"the beginning less":    unlikeAt(size, 0, -1),
		"the end less":          unlikeAt(size, size-1, -1),
		"the end greater":       unlikeAt(size, size-1, 1),
		"the middle greater":    unlikeAt(size, size/2, 1),
		"two halves":            made(size, func(k int) int { return (k * k) % max(size/2, 1) }),
		"blocks":                made(size, func(k int) int { return k / 100 % 7 }),
		"blocks that fall":      made(size, func(k int) int { return -(k / 100) }),
		"fibonacci":             fibonacci(size),
		"bits of places":        made(size, func(k int) int { return bits.OnesCount(uint(k)) % 2 }),
		"noughts of places":     made(size, func(k int) int { return bits.TrailingZeros(uint(k + 1)) }),
		"up and down":           made(size, func(k int) int { return min(k, size-k) }),
		"drawn of two":          made(size, func(int) int { return r.Intn(2) }),
		"drawn of many":         made(size, func(int) int { return int(r.Uint64()) }),
		"drawn once each":       r.Perm(size),
	}
	for _, period := range row(2, 3, 4, 5, 7, 8, 16, 17, 100, 127, 128, 1000, 1024, 4095, 8191, 8192) {
		name := "a period of " + strconv.Itoa(period)
		l[name+", rising"] = made(size, func(k int) int { return k % period })
		l[name+", one unlike"] = made(size, func(k int) int { return k % period / (period - 1) })
		letters := made(period, func(int) int { return r.Intn(3) })
		l[name+", drawn"] = made(size, func(k int) int { return letters[k%period] })
	}
	return l
}

// TestListsAtTheLimit holds also that the array and its prefixes together cost no more than W4 says.
func TestListsAtTheLimit(t *testing.T) {
	for _, size := range row(most, most-1) {
		for what, l := range kinds(size) {
			_, cost := holdsStepwise(t, what, l)
			costs(t, what, l, cost)
			if all := suffix.Of(l).Cost + cost; all > api.SaCost*bound(size)/2 {
				t.Fatalf("W4: %s: %d numbers cost %d", what, size, all)
			}
		}
	}
}

func TestCostOfAllShortLengths(t *testing.T) {
	for size := 1; size <= 130; size++ {
		for what, l := range kinds(size) {
			_, cost := holdsStepwise(t, what, l)
			costs(t, what, l, cost)
		}
	}
}

// TestLongerLists has lists beyond MaxText: their prefixes are as those of others, cost is only not below 0.
func TestLongerLists(t *testing.T) {
	for _, size := range row(most+1, 40000) {
		for what, l := range kinds(size) {
			_, cost := holdsStepwise(t, what, l)
			costs(t, what, l, cost)
		}
	}
	l := slices.Repeat(row(7), 1<<18)
	p, cost := holdsStepwise(t, "one number, far beyond", l)
	if costs(t, "one number, far beyond", l, cost); !slices.Equal(p, made(len(l), itself)) {
		t.Fatalf("P17.1: one number, far beyond: %v", few(p))
	}
}

// TestKnownPrefixesAtTheLimit has lists of MaxText numbers whose p is known without a reckoning.
func TestKnownPrefixesAtTheLimit(t *testing.T) {
	prefixed(t, "one number", make([]int, most), turned(most), made(most, itself))
	prefixed(t, "rising", made(most, itself), made(most, itself), make([]int, most))
	prefixed(t, "falling", turned(most), turned(most), make([]int, most))
	l := unlikeAt(most, most-1, 1)
	p, _, e := common.Prefixes(l, made(most, itself))
	if want := made(most, func(k int) int { return max(most-1-k, 0) }); e != api.OK || p[0] != 0 || !slices.Equal(p[1:], want[1:]) {
		t.Errorf("P17.1: noughts and a greater end: %v, %d", few(p), e)
	}
}
