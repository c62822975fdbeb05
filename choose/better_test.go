package choose_test

import (
	"cmp"
	"math"
	"math/rand"
	"slices"
	"testing"

	"pleat/api"
	"pleat/choose"
)

// better holds Better of two folds both ways: 1, if a is Better; -1, if b is; 0, if none is.
func better(t *testing.T, what string, a, b api.Fold, want int) {
	t.Helper()
	if one, other := choose.Better(a, b), choose.Better(b, a); one != (want > 0) || other != (want < 0) {
		t.Fatalf("P22.2: %s: Better of %v and %v is %t, the other way round %t; not %t, %t", what, a, b, one, other, want > 0, want < 0)
	}
}

func at(places ...int) []api.Spot {
	var l []api.Spot
	for _, p := range places {
		l = append(l, api.Spot{At: p})
	}
	return l
}

func TestBetterByEach(t *testing.T) {
	better(t, "the example", fold(2, 3, at(4)...), fold(3, 3, at(9)...), -1)
	better(t, "a greater gain alone", fold(2, 4, at(4)...), fold(2, 3, at(4)...), 1)
	better(t, "a greater gain, all else less", fold(2, 4, at(9)...), fold(8, 3, at(4)...), 1)
	better(t, "a gain of 0 and one below", fold(2, 0, at(4)...), fold(2, -1, at(4)...), 1)
	better(t, "both below 0", fold(2, -5, at(4)...), fold(3, -4, at(4)...), -1)
	better(t, "a greater length alone", fold(5, 3, at(4)...), fold(4, 3, at(4)...), 1)
	better(t, "a greater length, a later place", fold(5, 3, at(9)...), fold(4, 3, at(4)...), 1)
	better(t, "a length below 0", fold(-5, 3, at(4)...), fold(-4, 3, at(9)...), -1)
	better(t, "an earlier place alone", fold(5, 3, at(4)...), fold(5, 3, at(5)...), 1)
	better(t, "a place below 0", fold(5, 3, at(-1)...), fold(5, 3, at(0)...), 1)
	better(t, "equal", fold(5, 3, at(4)...), fold(5, 3, at(4)...), 0)
}

// TestBetterByTheFirstSpotAlone has folds that are unlike in nothing that is asked.
func TestBetterByTheFirstSpotAlone(t *testing.T) {
	better(t, "later spots", fold(5, 3, at(4, 9, 14)...), fold(5, 3, at(4, 10)...), 0)
	better(t, "how many spots", fold(5, 3, at(4, 9, 14)...), fold(5, 3, at(4)...), 0)
	better(t, "a lower one that is not the first", fold(5, 3, at(4, 0)...), fold(5, 3, at(3, 9)...), -1)
	better(t, "the class", fold(5, 3, tail(4)), fold(5, 3, spare(4, 7)), 0)
	better(t, "the register", fold(5, 3, spare(4, 1)), fold(5, 3, spare(4, 7)), 0)
	better(t, "an unlike class ahead", fold(5, 3, tail(5)), fold(5, 3, spare(4, 7)), -1)
}

func TestBetterWithoutSpots(t *testing.T) {
	none := [][]api.Spot{nil, {}, at(1, 2)[:0]}
	for _, a := range none {
		for _, b := range none {
			better(t, "none has a spot", fold(5, 3, a...), fold(5, 3, b...), 0)
			better(t, "none has a spot, the gain", fold(4, 4, a...), fold(5, 3, b...), 1)
			better(t, "none has a spot, the length", fold(4, 3, a...), fold(5, 3, b...), -1)
			better(t, "no fold", api.Fold{Spots: a}, api.Fold{Spots: b}, 0)
		}
		for _, p := range []int{0, 4, -1, most, math.MaxInt, math.MinInt, math.MaxInt - 1} {
			better(t, "one has a spot", fold(5, 3, at(p)...), fold(5, 3, a...), 1)
			better(t, "one has a spot, the gain", fold(5, 3, at(p)...), fold(5, 4, a...), -1)
			better(t, "one has a spot, the length", fold(5, 3, at(p)...), fold(6, 3, a...), -1)
			better(t, "one is no fold", fold(0, 0, at(p)...), api.Fold{Spots: a}, 1)
		}
	}
}

// numbers are such as fields can hold, and their edges.
var numbers = []int{math.MinInt, math.MinInt + 1, math.MinInt32, -2, -1, 0, 1, 2, most, math.MaxInt32, math.MaxInt32 + 1, math.MaxInt - 1, math.MaxInt}

func TestBetterAtTheGreatestNumbers(t *testing.T) {
	for _, a := range numbers {
		for _, b := range numbers {
			by := cmp.Compare(a, b)
			better(t, "gains", fold(3, a, at(3)...), fold(3, b, at(3)...), by)
			better(t, "gains, without spots", fold(3, a), fold(3, b), by)
			better(t, "lengths", fold(a, 3, at(3)...), fold(b, 3, at(3)...), by)
			better(t, "lengths, without spots", fold(a, 3), fold(b, 3), by)
			better(t, "places", fold(3, 3, at(a)...), fold(3, 3, at(b)...), -by)
		}
	}
}

// byRule orders folds by the words of P22.2: the Better one first.
func byRule(a, b api.Fold) int {
	first := func(f api.Fold) (none, at int) {
		if len(f.Spots) == 0 {
			return 1, 0
		}
		return 0, f.Spots[0].At
	}
	noneOfA, atOfA := first(a)
	noneOfB, atOfB := first(b)
	return cmp.Or(cmp.Compare(b.Gain, a.Gain), cmp.Compare(b.Len, a.Len), cmp.Compare(noneOfA, noneOfB), cmp.Compare(atOfA, atOfB))
}

// TestBetterOfAllPairs has folds whose fields are of a few numbers, and holds each against each.
func TestBetterOfAllPairs(t *testing.T) {
	var l []api.Fold
	few := []int{math.MinInt, -1, 0, 1, 2, math.MaxInt}
	for _, gain := range few {
		for _, n := range few {
			l = append(l, fold(n, gain))
			for _, p := range few {
				l = append(l, fold(n, gain, at(p)...), fold(n, gain, at(p, 0)...))
			}
		}
	}
	for _, a := range l {
		for _, b := range l {
			better(t, "each against each", a, b, -byRule(a, b))
		}
	}
}

func TestBetterOfDrawnFolds(t *testing.T) {
	r := rand.New(rand.NewSource(222))
	drawn := func() api.Fold {
		f := fold(oneOf(r, numbers...), oneOf(r, numbers...))
		for range r.Intn(4) {
			f.Spots = append(f.Spots, api.Spot{At: oneOf(r, numbers...), Class: int8(r.Intn(256) - 128), Reg: int8(r.Intn(256) - 128)})
		}
		return f
	}
	c := tally{}
	for range 100000 {
		a, b := drawn(), drawn()
		if r.Intn(2) == 0 {
			b.Gain = a.Gain
		}
		if r.Intn(2) == 0 {
			b.Len = a.Len
		}
		by := -byRule(a, b)
		better(t, "drawn", a, b, by)
		c[[]string{"worse", "equal", "better"}[by+1]]++
	}
	c.needs(t, map[string]int{"worse": 10000, "equal": 1000, "better": 10000})
}

// TestBetterSorts has folds in an order that Better makes: it is a row in which none is Better than one ahead of it.
func TestBetterSorts(t *testing.T) {
	r := rand.New(rand.NewSource(223))
	for range 200 {
		var l []api.Fold
		for range 1 + r.Intn(20) {
			l = append(l, fold(r.Intn(3), r.Intn(3), at(r.Intn(9))...), fold(r.Intn(3), r.Intn(3)))
		}
		slices.SortFunc(l, byRule)
		for k := range l {
			for _, behind := range l[k:] {
				if choose.Better(behind, l[k]) {
					t.Fatalf("P22.2: Better of %v and %v, which is ahead of it", behind, l[k])
				}
			}
		}
	}
}
