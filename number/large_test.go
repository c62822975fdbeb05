package number_test

import (
	"slices"
	"testing"

	"pleat/api"
	"pleat/number"
)

const most = 16384 // words of a text

// holdsLarge holds Of of a text of MaxText words, and Count of what it tells.
func holdsLarge(t *testing.T, what string, words []uint32, want []int, count int) {
	t.Helper()
	l, e := number.Of(entered(most-1, words...))
	if e != api.OK || !slices.Equal(l, want) {
		t.Errorf("P15.1: %s: Of tells %d numbers, %d; %v ..", what, len(l), e, l[:min(len(l), 9)])
	}
	if n := number.Count(l); n != count {
		t.Errorf("P15.3: %s: Count is %d, not %d", what, n, count)
	}
}

func TestTextsAtTheLimit(t *testing.T) {
	words := slices.Repeat([]uint32{halt}, most)
	holdsLarge(t, "one word", words, make([]int, most), 1)

	for p := range words {
		words[p] = jump(p)
	}
	holdsLarge(t, "jumps to all places", words, rising(most), most)

	for p := range words {
		words[p] = call(most - 1 - p)
	}
	words[most-1] = goTo(15)
	holdsLarge(t, "calls of all places", words, rising(most), most)

	for p := range words {
		words[p] = zero(1, 0)
	}
	words[most-1] = halt
	holdsLarge(t, "one word that is alone", words, rising(most), most)

	want := make([]int, most)
	for p := range words {
		words[p], want[p] = call(p%(most/2)), p%(most/2)
	}
	words[most-1], want[most-1] = halt, most/2
	holdsLarge(t, "each again behind half of the text", words, want, most/2+1)

	for p := range words {
		words[p], want[p] = set(15, p%5), 1+p/2
		if p%2 == 0 {
			words[p], want[p] = set(1, 5), 0
		}
	}
	words[most-1] = halt
	holdsLarge(t, "words that are alone between what comes again", words, want, most/2+1)
}
