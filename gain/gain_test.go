package gain_test

import (
	"math"
	"slices"
	"testing"

	"pleat/api"
	"pleat/gain"
)

const most = 16384 // words of a text

// noClasses are numbers of classes that no spot which can be folded has: None, too.
var noClasses = []int8{0, 5, 6, 9, 15, 16, -1, -2, -3, -4, math.MaxInt8, math.MaxInt8 - 1, math.MinInt8, math.MinInt8 + 1}

// classes are those that it can have.
var classes = []int8{api.Tail, api.Thunk, api.Dead, api.Spare}

// of tells spots by their classes.
func of(classes ...int8) []api.Spot {
	l := make([]api.Spot, 0, len(classes))
	for k, c := range classes {
		l = append(l, api.Spot{At: 7 * k, Class: c, Reg: int8(k % 15)})
	}
	return l
}

// shown tells the beginning of a list.
func shown(l []api.Spot) []api.Spot { return l[:min(len(l), 20)] }

func cost(t *testing.T, class int8, want int) {
	t.Helper()
	if got := gain.Cost(class); got != want {
		t.Fatalf("P21.1: Cost of the class %d is %d, not %d", class, got, want)
	}
}

func size(t *testing.T, class int8, n, want int) {
	t.Helper()
	if got := gain.Size(class, n); got != want {
		t.Fatalf("P21.2: Size of the class %d and %d is %d, not %d", class, n, got, want)
	}
}

func pays(t *testing.T, what string, n int, l []api.Spot, want int) {
	t.Helper()
	if got := gain.Of(n, l); got != want {
		t.Fatalf("P21.3: %s: Of %d and %d spots, %v, is %d, not %d", what, n, len(l), shown(l), got, want)
	}
}

func TestExamples(t *testing.T) {
	cost(t, api.Tail, 1)
	cost(t, api.Spare, 3)
	cost(t, 9, 0)
	size(t, api.Dead, 4, 5)
	size(t, api.Thunk, 4, 4)
	size(t, api.None, 4, 0)
	pays(t, "twice four", 4, of(api.Dead, api.Dead), 1)
	pays(t, "three times four", 4, of(api.Dead, api.Spare, api.Dead), 2)
	pays(t, "twice two", 2, of(api.Tail, api.Tail), 0)
	pays(t, "twice three", 3, of(api.Tail, api.Tail), 1)
}

// TestExamplesOfFolds are those of the chapters 22 and 23.
func TestExamplesOfFolds(t *testing.T) {
	pays(t, "four words", 4, []api.Spot{{At: 0, Class: api.Dead}, {At: 4, Class: api.Dead}}, 1)
	pays(t, "four words, one spot", 4, []api.Spot{{At: 4, Class: api.Dead}}, -2)
	pays(t, "three words to a halt", 3, []api.Spot{{At: 1, Class: api.Tail}, {At: 4, Class: api.Tail}}, 1)
	pays(t, "two words", 2, []api.Spot{{At: 0, Class: api.Dead}, {At: 2, Class: api.Dead}}, -1)
}

func TestCostOfEachNumber(t *testing.T) {
	for class := math.MinInt8; class <= math.MaxInt8; class++ {
		switch int8(class) {
		case api.Tail, api.Thunk, api.Dead:
			cost(t, int8(class), 1)
		case api.Spare:
			cost(t, int8(class), 3)
		default:
			cost(t, int8(class), 0)
		}
	}
}

// lengths are such as a sequence can have, and its edges.
var lengths = []int{1, 2, 3, 4, 5, 7, 100, 128, 255, 256, most / 2, most - 1, most}

// tooLong are such as no text has words.
var tooLong = []int{most + 1, most + 2, 2 * most, 1 << 16, math.MaxInt32, math.MaxInt32 + 1, 1<<32 + 1, 1<<32 + 4, math.MaxInt - 1, math.MaxInt}

// tooShort are such as no sequence has.
var tooShort = []int{0, -1, -2, -4, -most, math.MinInt32, -1<<32 + 4, math.MinInt + 1, math.MinInt, math.MinInt + 4}

// TestSizeOfEachNumber has the greatest number, too: one more is what Go's plus makes of it.
func TestSizeOfEachNumber(t *testing.T) {
	for class := math.MinInt8; class <= math.MaxInt8; class++ {
		for _, n := range tooShort {
			size(t, int8(class), n, 0)
		}
		for _, n := range slices.Concat(lengths, tooLong) {
			switch int8(class) {
			case api.Tail, api.Thunk:
				size(t, int8(class), n, n)
			case api.Dead, api.Spare:
				size(t, int8(class), n, n+1)
			default:
				size(t, int8(class), n, 0)
			}
		}
	}
}

func TestNoSpot(t *testing.T) {
	for _, n := range slices.Concat(lengths, tooLong, tooShort) {
		pays(t, "nil", n, nil, 0)
		pays(t, "an empty list", n, []api.Spot{}, 0)
		pays(t, "a list with spare room alone", n, of(api.Dead, api.Tail, api.Spare)[:0], 0)
	}
}

// TestNoLength has spots of all kinds: those of None pay n each, if n is a length.
func TestNoLength(t *testing.T) {
	lists := [][]api.Spot{of(api.Tail, api.Thunk, api.Dead, api.Spare), of(api.None), of(api.None, api.None, api.None), of(-1, 9)}
	for _, class := range slices.Concat(classes, noClasses) {
		lists = append(lists, of(class), of(class, class), of(class, class, class, class))
	}
	for _, n := range slices.Concat(tooShort, tooLong) {
		for _, l := range lists {
			pays(t, "no length", n, l, 0)
		}
	}
}

func TestTheEdgesOfLengths(t *testing.T) {
	pays(t, "the least length, twice", 1, of(api.Tail, api.Tail), -1)
	pays(t, "the least length, dead", 1, of(api.Dead), -2)
	pays(t, "the least length, spare", 1, of(api.Spare, api.Spare), -6)
	pays(t, "the least length, no class", 1, of(api.None, api.None), 2)
	pays(t, "the greatest length, twice", most, of(api.Tail, api.Thunk), most-2)
	pays(t, "the greatest length, dead", most, of(api.Dead), -2)
	pays(t, "the greatest length, spare", most, of(api.Spare, api.Spare), most-7)
	pays(t, "the greatest length, no class", most, of(api.None, api.None), 2*most)
	pays(t, "one less than the greatest length", most-1, of(api.Dead, api.Spare, api.Dead), 2*most-8)
}

// TestOneSpot has what one spot alone pays: less than nothing, if it can be folded.
func TestOneSpot(t *testing.T) {
	for _, n := range lengths {
		pays(t, "a tail", n, of(api.Tail), -1)
		pays(t, "a thunk", n, of(api.Thunk), -1)
		pays(t, "a dead one", n, of(api.Dead), -2)
		pays(t, "a spare one", n, of(api.Spare), -4)
		for _, c := range noClasses {
			pays(t, "no class", n, of(c), n)
		}
	}
}

// TestTwoSpots has every class first and last: only the first one's function is laid.
func TestTwoSpots(t *testing.T) {
	less := map[int8]int{api.Tail: 1, api.Thunk: 1, api.Dead: 1, api.Spare: 3}
	more := map[int8]int{api.Dead: 1, api.Spare: 1}
	for _, n := range lengths {
		for _, first := range classes {
			for _, second := range classes {
				pays(t, "two classes", n, of(first, second), n-less[first]-less[second]-more[first])
			}
			for _, c := range noClasses {
				pays(t, "a class, and none", n, of(first, c), n-less[first]-more[first])
				pays(t, "none, and a class", n, of(c, first), 2*n-less[first])
				pays(t, "no class twice", n, of(c, c), 2*n)
			}
		}
	}
}

func TestSumsBelowAndAbove(t *testing.T) {
	pays(t, "three times three, dead", 3, of(api.Dead, api.Dead, api.Dead), 2)
	pays(t, "twice three, dead", 3, of(api.Dead, api.Dead), 0)
	pays(t, "twice three, one spare", 3, of(api.Dead, api.Spare), -2)
	pays(t, "four times three, spare", 3, of(api.Spare, api.Spare, api.Spare, api.Spare), -4)
	pays(t, "twice two, spare", 2, of(api.Spare, api.Spare), -5)
	pays(t, "many times two, spare", 2, of(slices.Repeat([]int8{api.Spare}, 100)...), -103)
	pays(t, "seven times two, thunks", 2, of(slices.Repeat([]int8{api.Thunk}, 7)...), 5)
	pays(t, "seven times two, tails", 2, of(slices.Repeat([]int8{api.Tail}, 7)...), 5)
	pays(t, "six times four, spare", 4, of(slices.Repeat([]int8{api.Spare}, 6)...), 1)
	pays(t, "five times four, spare", 4, of(slices.Repeat([]int8{api.Spare}, 5)...), 0)
	pays(t, "four times four, spare", 4, of(slices.Repeat([]int8{api.Spare}, 4)...), -1)
}

// TestPlacesAndRegistersDontMatter has all kinds of them, also such as are none.
func TestPlacesAndRegistersDontMatter(t *testing.T) {
	places := []int{0, 1, most - 1, most, most + 1, -1, math.MaxInt32 + 1, math.MaxInt, math.MinInt}
	registers := []int8{0, 1, 14, 15, 16, -1, math.MaxInt8, math.MinInt8}
	for _, p := range places {
		for _, r := range registers {
			l := of(api.Spare, api.Dead, api.Spare, api.Dead)
			for k := range l {
				l[k].At, l[k].Reg = p, r
				pays(t, "any place and register", 6, l, 10-1)
			}
			l[3] = l[1]
			pays(t, "one spot twice", 6, l, 10-1)
		}
	}
}
