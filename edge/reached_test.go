package edge_test

import (
	"slices"
	"strings"
	"testing"

	"pleat/api"
	"pleat/edge"
)

func TestReached(t *testing.T) {
	s := set(1, 2)
	for _, c := range []struct {
		what string
		x    api.Image
		want string
	}{
		{"an entry that is not place 0", entered(1, halt, halt), "ny"},
		{"an entry that is the last place", entered(3, s, zero(1, 0), halt, halt), "nny"},
		{"an entry within what would be a block", entered(2, s, s, s, halt), "ny"},
		{"back to place 0", entered(1, halt, jump(0)), "yy"},
		{"what is fallen into", entered(1, s, s, zero(1, 3), halt), "nyy"},
		{"what is fallen into behind a label", text(s, s, s, jump(2)), "yy"},
		{"both ways of a zero", text(zero(1, 2), halt, halt), "yyy"},
		{"nothing behind a jump", text(jump(2), s, halt), "yny"},
		{"nothing behind a halt", text(halt, s, halt), "yn"},
		{"nothing behind a trap", text(trap, s, halt), "yn"},
		{"nothing behind no instruction", text(1, s, halt), "yn"},
		{"nothing behind a call whose function never comes back", text(call(2), halt, halt), "yny"},
		{"a call whose function comes back", text(call(2), halt, goTo(15)), "yyy"},
		{"a call whose function goes on to one that comes back", text(call(2), halt, jump(4), halt, goTo(15)), "yyyny"},
		{"behind a calls, that can go there itself", text(calls(1), halt, halt), "yyn"},
		{"a go without a place", text(goTo(1), halt), "yn"},
		{"a taken label", text(place(1, 3), goTo(1), halt, halt), "yny"},
		{"a taken label, but no go that is reached", text(place(1, 3), halt, goTo(1), halt), "ynn"},
		{"a taken label whose place is never reached, and a go", text(goTo(1), place(1, 3), halt, halt), "yny"},
		{"a return site whose call is never reached, and a go", text(goTo(1), call(0), halt, halt), "ynyn"},
		{"by one that is not reached alone", text(halt, jump(2), halt), "ynn"},
		{"by several that are not reached alone", text(halt, jump(4), zero(1, 4), call(4), s, jump(0)), "ynnnn"},
		{"by one that is reached, too", text(jump(2), jump(2), halt), "yny"},
		{"a circle that is reached", text(s, jump(2), jump(0)), "yy"},
		{"a circle of one that is not", text(halt, jump(1)), "yn"},
		{"a circle of several that is not", text(halt, jump(2), jump(3), jump(1)), "ynnn"},
		{"a circle that is not, and goes to one that is", text(jump(3), zero(1, 3), jump(1), halt), "ynny"},
		{"a circle within itself", entered(2, halt, halt, jump(3), zero(2, 2), trap), "nnyyy"},
		{"a row against the order", entered(4, halt, jump(0), jump(1), jump(2), jump(3)), "yyyyy"},
		{"a row to and fro", entered(2, jump(4), jump(3), jump(1), jump(0), halt), "yyyyy"},
		{"two rows that end in one", text(zero(1, 3), zero(2, 5), halt, jump(5), halt, halt), "yyyyny"},
	} {
		reached(t, c.what, c.x, c.want)
	}
}

// limit is how many words the longest text has.
const limit = 16384

// longest tells a text of that many words, each of which a function tells, but the last one.
func longest(word func(p int) uint32, last uint32) []uint32 {
	words := make([]uint32, limit)
	for p := range words[:limit-1] {
		words[p] = word(p)
	}
	words[limit-1] = last
	return words
}

// TestReachedByLongRows has texts at their limit, each word of which is a block.
func TestReachedByLongRows(t *testing.T) {
	all, half := strings.Repeat("y", limit), strings.Repeat("y", limit/2)
	rest := strings.Repeat("n", limit/2)
	onward := longest(func(p int) uint32 { return jump(p + 1) }, halt)
	reached(t, "a row of jumps", text(onward...), all)
	reached(t, "the second half of a row of jumps", entered(limit/2, onward...), rest+half)
	backward := longest(func(p int) uint32 { return jump(max(p-1, 0)) }, jump(limit-2))
	reached(t, "a row of jumps backward", entered(limit-1, backward...), all)
	reached(t, "the first half of a row of jumps backward", entered(limit/2-1, backward...), half+rest)
	reached(t, "a row of zeros to the end", text(longest(func(int) uint32 { return zero(1, limit-1) }, halt)...), all)
	reached(t, "a row of zeros to the beginning", text(longest(func(int) uint32 { return zero(1, 0) }, halt)...), all)
	reached(t, "zeros to either side", text(longest(func(p int) uint32 { return zero(1, limit-1-p) }, halt)...), all)
	reached(t, "a row of calls", text(longest(func(p int) uint32 { return call(p + 1) }, halt)...), all)
	reached(t, "a row of halts", entered(9, halts(limit)...), "nnnnnnnnny"+strings.Repeat("n", limit-10))
}

// TestReachedByManyLeaps has as many leaps, with as many blocks to which each of them can go, as a text can have.
func TestReachedByManyLeaps(t *testing.T) {
	leaps := longest(func(int) uint32 { return calls(1) }, halt)
	reached(t, "a text of calls", text(leaps...), strings.Repeat("y", limit))
	leaps[limit/2] = halt
	reached(t, "a text of calls, a halt in its middle", text(leaps...), strings.Repeat("y", limit/2+1)+"n"+strings.Repeat("y", limit/2-2))
}

// TestLongEdges has a text of which each word is a block, and a row whose label is the last place.
func TestLongEdges(t *testing.T) {
	got, e := edge.Edges(text(longest(func(p int) uint32 { return zero(1, limit-1-p) }, jump(limit-1))...))
	if e != api.OK || len(got) != limit {
		t.Fatalf("P12.1: zeros to either side: %d lists, %d", len(got), e)
	}
	for p, list := range got[:limit-1] {
		want := to(p+1, limit-1-p)
		slices.Sort(want)
		if !slices.Equal(list, slices.Compact(want)) {
			t.Fatalf("P12.1: zeros to either side: the list %d is %v", p, list)
		}
	}
	edges(t, "a jump to the last place", text(longest(func(p int) uint32 { return set(1, 2) }, jump(limit-1))...), to(1), to(1))
}

// TestManyLeaps has a taken label, a return site or a leap at each place of a text.
func TestManyLeaps(t *testing.T) {
	const size = 1500
	words := halts(size)
	var every []int
	for p := range words[:size-1] {
		words[p] = []uint32{calls(1), place(1, p+1), call(p + 1)}[p%3]
		every = append(every, p+1)
	}
	words[size-1] = goTo(15)
	got, e := edge.Edges(text(words...))
	if e != api.OK || len(got) != size {
		t.Fatalf("P12.1: leaps everywhere: %d lists, %d", len(got), e)
	}
	for p, list := range got {
		want := to(p + 1)
		if p%3 == 0 || p == size-1 {
			want = every
		}
		if !slices.Equal(list, want) {
			t.Fatalf("P12.1: leaps everywhere: the list %d has %d numbers, not %d", p, len(list), len(want))
		}
	}
}
