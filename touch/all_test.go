package touch_test

import (
	"math/rand"
	"slices"
	"testing"

	"pleat/touch"
)

func all(t *testing.T, what string, l []uint32, reads, writes uint16) {
	t.Helper()
	if r, s := touch.All(l); r != reads || s != writes {
		t.Errorf("P13.3: %s, %d words, %#x ..: All is %d, %d; not %d, %d", what, len(l), l[:min(len(l), 12)], r, s, reads, writes)
	}
}

func row(words ...uint32) []uint32 { return words }

func TestAllOfFew(t *testing.T) {
	all(t, "nil", nil, 0, 0)
	all(t, "no words", []uint32{}, 0, 0)
	all(t, "trap", row(trap), 0, 0)
	all(t, "set", row(set(3, 5)), 0, of(3))
	all(t, "store", row(store(3, 15, 5)), of(3, 15), 0)
	all(t, "call", row(call(0)), 0, link)
	all(t, "go", row(goTo(15)), link, 0)
	all(t, "no instruction", row(1), 0, 0)
}

// TestAllOfOneWord has All of each word alone, which is what the word itself reads and writes.
func TestAllOfOneWord(t *testing.T) {
	for op := range uint32(22) {
		for r := range uint32(16) {
			for _, w := range row(fitting(op, r, r, r, 1), fitting(op, r, 3, 4, 1), fitting(op, 3, r, 4, 1), fitting(op, 3, 4, r, 1)) {
				want := reckoned(w)
				all(t, names[op], row(w), want.reads, want.writes)
			}
		}
	}
}

// TestAllByOrder has what is read and written in each order.
func TestAllByOrder(t *testing.T) {
	for r := range uint32(15) {
		all(t, "read and written by one word", row(add(r, r, r)), of(r), of(r))
		all(t, "read and written by one word, twice", row(move(r, r), move(r, r)), of(r), of(r))
		all(t, "written ahead", row(set(r, 1), out(r, 2)), 0, of(r))
		all(t, "read ahead", row(out(r, 2), set(r, 1)), of(r), of(r))
		all(t, "read, written, read", row(out(r, 2), set(r, 1), out(r, 2)), of(r), of(r))
		all(t, "written, read, written", row(in(r), out(r, 2), in(r)), 0, of(r))
		all(t, "written, read and written", row(in(r), move(r, r)), 0, of(r))
		all(t, "read and written, read", row(move(r, r), out(r, 2)), of(r), of(r))
		all(t, "read twice", row(out(r, 2), store(r, r, 1), goTo(r)), of(r), 0)
		all(t, "written twice", row(set(r, 2), place(r, 1), in(r)), 0, of(r))
		all(t, "others between", row(set(r, 2), trap, halt, 1, jump(0), out(r, 1)), 0, of(r))
		all(t, "another one written ahead", row(set(r+1, 2), out(r, 1)), of(r), of(r+1))
		all(t, "moved from the next one", row(move(r, r+1), move(r+1, r)), of(r+1), of(r, r+1))
		all(t, "one of two written ahead", row(set(r, 2), add(r, r, r+1)), of(r+1), of(r))
	}
}

func TestAllWithCalls(t *testing.T) {
	all(t, "call, go", row(call(0), goTo(15)), 0, link)
	all(t, "go, call", row(goTo(15), call(0)), link, link)
	all(t, "calls 15", row(calls(15)), link, link)
	all(t, "calls 15 twice", row(calls(15), calls(15)), link, link)
	all(t, "call, calls 15", row(call(0), calls(15)), 0, link)
	all(t, "calls 2, calls 15", row(calls(2), calls(15)), of(2), link)
	all(t, "calls 2, move 3 15, go 3", row(calls(2), move(3, 15), goTo(3)), of(2), of(3, 15))
	all(t, "place 2, calls 2", row(place(2, 0), calls(2)), 0, of(2, 15))
	all(t, "move 3 15, call, move 15 3", row(move(3, 15), call(0), move(15, 3)), link, of(3, 15))
	all(t, "set 15, call, out 15", row(set(15, 1), call(0), out(15, 0)), 0, link)
	all(t, "zero 15, call", row(zero(15, 0), call(0)), link, link)
	all(t, "store 15 15, call, store 15 15", row(store(15, 15, 0), call(0), store(15, 15, 0)), link, link)
}

// TestAllWithNoInstructions has words that would read and write between others: nothing is taken away by them, nothing is joined.
func TestAllWithNoInstructions(t *testing.T) {
	for what, w := range noInstructions() {
		all(t, what+" ahead", row(w, move(4, 5)), of(5), of(4))
		all(t, what+" behind", row(move(4, 5), w), of(5), of(4))
		all(t, what+" between", row(set(6, 1), w, out(15, 2), w, store(6, 1, 0)), of(1, 15), of(6))
		all(t, what+" alone", row(w, w, w), 0, 0)
	}
}

func TestAllOfAllRegisters(t *testing.T) {
	var written, read []uint32
	for r := range uint32(16) {
		written, read = append(written, set(r, 1)), append(read, out(r, 1))
	}
	all(t, "all read", read, 65535, 0)
	all(t, "all written", written, 0, 65535)
	all(t, "all written ahead", slices.Concat(written, read), 0, 65535)
	all(t, "all read ahead", slices.Concat(read, written), 65535, 65535)
	for r := range uint32(16) {
		others := slices.Delete(slices.Clone(written), int(r), int(r)+1)
		all(t, "all but one written ahead", slices.Concat(others, read), of(r), 65535-of(r))
		all(t, "one written ahead", slices.Concat(row(set(r, 1)), read), 65535-of(r), of(r))
	}
}

// TestAllOfALongRow has what decides at the row's beginning, and at its end.
func TestAllOfALongRow(t *testing.T) {
	const many = 1 << 20
	long := slices.Repeat(row(add(1, 1, 2), 1, store(3, 1, 0), jump(0)), many/4)
	all(t, "a long row", long, of(1, 2, 3), of(1))
	all(t, "a long row, written ahead", slices.Concat(row(set(1, 0), set(2, 0), set(3, 0)), long), 0, of(1, 2, 3))
	all(t, "a long row, written behind", slices.Concat(long, row(set(1, 0), set(2, 0), call(0))), of(1, 2, 3), of(1, 2, 15))
	all(t, "a long row, read behind", slices.Concat(long, row(add(4, 1, 15))), of(1, 2, 3, 15), of(1, 4))
	all(t, "a long row of what is nothing", slices.Repeat(row(0xffffffff), many), 0, 0)
	all(t, "a long row of what is nothing, and one behind", append(slices.Repeat(row(trap), many), calls(0)), of(0), link)
}

// inParts holds All of l against All of its words up to the place cut, and of those behind.
func inParts(t *testing.T, l []uint32, cut int) {
	t.Helper()
	reads, writes := touch.All(l)
	firstReads, firstWrites := touch.All(l[:cut])
	secondReads, secondWrites := touch.All(l[cut:])
	for r := range uint32(16) {
		has := func(s uint16) bool { return s/of(r)%2 == 1 }
		read := has(firstReads) || has(secondReads) && !has(firstWrites)
		written := has(firstWrites) || has(secondWrites)
		if has(reads) != read || has(writes) != written {
			t.Fatalf("What follows: %#x, cut at %d, register %d: %t, %t; its parts say %t, %t", l, cut, r, has(reads), has(writes), read, written)
		}
	}
}

func TestAllInTwoParts(t *testing.T) {
	r := rand.New(rand.NewSource(133))
	for range 3000 {
		l := tossedRow(r, 20)
		for cut := range len(l) + 1 {
			inParts(t, l, cut)
		}
	}
	for range 20 {
		l := tossedRow(r, 20000)
		for range 20 {
			inParts(t, l, r.Intn(len(l)+1))
		}
	}
}

// TestWordsAreLeft has words with others behind their end, which are none of the row.
func TestWordsAreLeft(t *testing.T) {
	whole := row(add(1, 2, 3), call(5), 1, goTo(15), store(4, 1, 0), move(8, 9), out(10, 0), calls(11))
	kept := slices.Clone(whole)
	for range 3 {
		all(t, "R5, R6: a row with room behind it", whole[:5], of(2, 3, 4), of(1, 15))
		all(t, "R5, R6: nothing, with room behind it", whole[:0], 0, 0)
		all(t, "R5, R6: what lies behind", whole[5:], of(9, 10, 11), of(8, 15))
		if !slices.Equal(whole, kept) {
			t.Fatalf("R5: the words were changed: %#x", whole)
		}
	}
	whole[0], whole[1] = set(7, 1), set(6, 1)
	all(t, "R6: the row, with other words", whole[:5], of(1, 4, 15), of(6, 7))
	all(t, "R6: the row's end", whole[2:5], of(1, 4, 15), 0)
}
