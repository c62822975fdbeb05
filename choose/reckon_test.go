package choose_test

import (
	"math/rand"
	"slices"
	"testing"

	"pleat/api"
	"pleat/choose"
	"pleat/class"
	"pleat/gain"
	"pleat/image"
	"pleat/prune"
	"pleat/repeat"
)

// tally counts what was met.
type tally map[string]int

func (c tally) needs(t *testing.T, least map[string]int) {
	t.Helper()
	for what, n := range least {
		if c[what] < n {
			t.Errorf("only %d times: %s", c[what], what)
		}
	}
}

func oneOf[T any](r *rand.Rand, from ...T) T { return from[r.Intn(len(from))] }

// puts puts a fold together by hand, of what the layers below tell.
func puts(x api.Image, r api.Repeat) (api.Fold, api.Errno) {
	spots, e := class.Spots(x, r)
	if e != api.OK || len(spots) == 0 {
		return api.Fold{}, e
	}
	apart := prune.Apart(r.Len, spots)
	return api.Fold{Len: r.Len, Spots: apart, Gain: gain.Of(r.Len, apart)}, api.OK
}

// counted tells what a fold gains by a plain count, and holds that its spots lie apart.
func counted(t *testing.T, f api.Fold) int {
	t.Helper()
	costs := [5]int{0, 1, 1, 1, 3}
	smaller := -f.Len
	if f.Spots[0].Class >= api.Dead {
		smaller--
	}
	for k, s := range f.Spots {
		if k > 0 && s.At < f.Spots[k-1].At+f.Len {
			t.Fatalf("P22.1: the spots of %v overlap", f)
		}
		smaller += f.Len - costs[s.Class]
	}
	return smaller
}

// asPut holds Fold of one sequence, or of what is none.
func asPut(t *testing.T, c tally, x api.Image, r api.Repeat) api.Fold {
	t.Helper()
	want, e := puts(x, r)
	if e != api.OK {
		refuses(t, "put together", x, r, e)
		c["refused"]++
		return want
	}
	folds(t, "put together", x, r, want)
	if len(want.Spots) == 0 {
		c["no spot"]++
		return want
	}
	if n := counted(t, want); n != want.Gain {
		t.Fatalf("P22.1: %v gains %d", want, n)
	}
	switch {
	case want.Gain < 0:
		c["below 0"]++
	case want.Gain == 0:
		c["0"]++
	default:
		c["above 0"]++
	}
	if len(want.Spots) < len(r.At) {
		c["some places"]++
	}
	return want
}

var classNames = [5]string{"none", "tail", "thunk", "dead", "spare"}

// asReckoned holds Best of an image against all of its sequences, and Fold of these; of a long text of some of them.
func asReckoned(t *testing.T, c tally, x api.Image) {
	t.Helper()
	all, e := repeat.All(x)
	if e != api.OK {
		t.Fatalf("the image of %#x may not be: %d", x.Text, e)
	}
	var paying []api.Fold
	k, step := 0, 1+len(x.Text)/25
	for r := range all {
		f, _ := puts(x, r)
		if f.Gain > 0 {
			paying = append(paying, f)
		}
		if k++; k%step == 0 {
			asPut(t, c, x, r)
		}
	}
	if len(paying) == 0 {
		noBest(t, "nothing pays", x, api.OK)
		c["none"]++
		return
	}
	// Not by Better: P22.2 is reckoned, too.
	slices.SortFunc(paying, byRule)
	best(t, "as reckoned", x, paying[0])
	c.met(paying)
}

// met counts what decided which of the paying folds is the best one.
func (c tally) met(paying []api.Fold) {
	first := paying[0]
	c[classNames[first.Spots[0].Class]]++
	if slices.ContainsFunc(first.Spots, func(s api.Spot) bool { return s.Class != first.Spots[0].Class }) {
		c["two classes"]++
	}
	if len(paying) == 1 {
		c["one pays"]++
		return
	}
	c["many pay"]++
	switch second := paying[1]; {
	case second.Gain < first.Gain:
		c["by gain"]++
	case second.Len < first.Len:
		c["by length"]++
	default:
		c["by place"]++
	}
}

// oneWay holds W3 and P22.2 of all folds of an image: of every two of them that have spots one is Better.
func oneWay(t *testing.T, c tally, x api.Image) {
	t.Helper()
	all, _ := repeat.All(x)
	var l []api.Fold
	for r := range all {
		if f, e := choose.Fold(x, r); e == api.OK && len(f.Spots) > 0 {
			l = append(l, f)
		}
	}
	for k, a := range l {
		for _, b := range l[:k] {
			if choose.Better(a, b) == choose.Better(b, a) {
				t.Fatalf("W3, P22.2: %#x, Entry %d: of %v and %v none is Better, or both are", x.Text, x.Entry, a, b)
			}
			if a.Gain == b.Gain && a.Len == b.Len {
				if a.Spots[0].At == b.Spots[0].At {
					t.Fatalf("W3: %#x, Entry %d: %v and %v are equal in Gain, Len and first At", x.Text, x.Entry, a, b)
				}
				c["by place"]++
			}
		}
	}
	best, is, _ := choose.Best(x)
	for _, f := range l {
		if f.Gain > 0 && (!is || choose.Better(f, best)) {
			t.Fatalf("P22.3: %#x, Entry %d: %v is passed over for %v", x.Text, x.Entry, f, best)
		}
	}
}

func may(x api.Image) bool {
	e, _ := image.Check(x)
	return e == api.OK
}

// eachText tells all texts of up to that many of some words, and an end behind them, that may be.
func eachText(most int, from []uint32, end uint32, tell func(x api.Image)) {
	var grow func(words []uint32)
	grow = func(words []uint32) {
		if x := text(words, row(end)); may(x) {
			tell(x)
		}
		if len(words) == most {
			return
		}
		for _, w := range from {
			grow(append(slices.Clone(words), w))
		}
	}
	grow(nil)
}

func TestTextsOfTwoWords(t *testing.T) {
	c := tally{}
	look := func(x api.Image) {
		asReckoned(t, c, x)
		oneWay(t, c, x)
	}
	eachText(11, row(out(1, 0), in(2)), halt, look)
	eachText(10, row(out(1, 0), in(2)), goTo(15), look)
	c.needs(t, map[string]int{"no spot": 1000, "some places": 1000, "below 0": 1000, "0": 1000, "above 0": 1000, "none": 1000, "dead": 300, "one pays": 300, "many pay": 50, "by place": 1000})
}

func TestTextsOfFewWords(t *testing.T) {
	c := tally{}
	look := func(x api.Image) { asReckoned(t, c, x) }
	for _, end := range row(halt, goTo(15)) {
		eachText(8, row(out(1, 0), in(2), halt), end, look)
		eachText(6, row(out(1, 0), goTo(15), call(1), zero(1, 0)), end, look)
		eachText(4, row(out(1, 0), call(0), goTo(15), zero(1, 0), move(2, 15), 1, calls(2), place(1, 2), jump(1), trap), end, look)
	}
	c.needs(t, map[string]int{"no spot": 1000, "below 0": 1000, "0": 1000, "above 0": 300, "none": 10000, "tail": 100, "one pays": 100})
}

// TestEachEntry has a label at each place, by the Entry alone.
func TestEachEntry(t *testing.T) {
	c := tally{}
	for _, end := range row(halt, goTo(15)) {
		eachText(8, row(out(1, 0), in(2)), end, func(x api.Image) {
			for x.Entry = range x.Text {
				asReckoned(t, c, x)
			}
		})
	}
	c.needs(t, map[string]int{"no spot": 1000, "some places": 1000, "above 0": 30, "none": 3000, "dead": 30})
}

// TestAllRowsOfPlaces holds Fold of all lists of places that rise, and of lists of up to three places that do not, or are none.
func TestAllRowsOfPlaces(t *testing.T) {
	c := tally{}
	for _, end := range row(goTo(15), halt) {
		eachText(6, row(out(1, 0), in(2)), end, func(x api.Image) {
			size := len(x.Text)
			for n := -1; n <= size+1; n++ {
				asPut(t, c, x, stands(n))
				for set := range 1 << size {
					asPut(t, c, x, stands(n, members(set)...))
				}
				for i := -1; i <= size; i++ {
					for k := -1; k <= size; k++ {
						asPut(t, c, x, stands(n, i, k))
						asPut(t, c, x, stands(n, 0, i, k))
					}
				}
			}
		})
	}
	c.needs(t, map[string]int{"refused": 50000, "no spot": 500, "some places": 500, "below 0": 1000, "0": 30})
}

// members tells the numbers of the bits that are 1, rising.
func members(set int) []int {
	var l []int
	for k := range 32 {
		if set>>k&1 == 1 {
			l = append(l, k)
		}
	}
	return l
}
