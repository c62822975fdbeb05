package touch_test

import (
	"fmt"
	"math"
	"strings"
	"testing"

	"pleat/touch"
)

const (
	trap = 0
	halt = 21 << 27
	link = 32768 // the set of the link register alone
)

// ins tells a word by the bits that chapter 2 says.
func ins(op, d, a, b uint32, n int) uint32 {
	return op<<27 | d<<23 | a<<19 | b<<15 | uint32(n)&0x7fff
}

// fitting tells ins of those fields that the op has.
func fitting(op, d, a, b uint32, n int) uint32 {
	has := func(field string) uint32 { return uint32(strings.Count(fields[op], field)) }
	return ins(op, d*has("D"), a*has("A"), b*has("B"), n*int(has("N")+has("P")))
}

func set(d uint32, n int) uint32      { return ins(1, d, 0, 0, n) }
func move(d, a uint32) uint32         { return ins(2, d, a, 0, 0) }
func add(d, a, b uint32) uint32       { return ins(3, d, a, b, 0) }
func load(d, a uint32, n int) uint32  { return ins(11, d, a, 0, n) }
func store(a, b uint32, n int) uint32 { return ins(12, 0, a, b, n) }
func in(d uint32) uint32              { return ins(13, d, 0, 0, 0) }
func out(a uint32, n int) uint32      { return ins(14, 0, a, 0, n) }
func jump(n int) uint32               { return ins(15, 0, 0, 0, n) }
func zero(a uint32, n int) uint32     { return ins(16, 0, a, 0, n) }
func call(n int) uint32               { return ins(17, 0, 0, 0, n) }
func calls(a uint32) uint32           { return ins(18, 0, a, 0, 0) }
func goTo(a uint32) uint32            { return ins(19, 0, a, 0, 0) }
func place(d uint32, n int) uint32    { return ins(20, d, 0, 0, n) }

// of tells the set of these registers.
func of(numbers ...uint32) uint16 {
	var s registers
	for _, r := range numbers {
		s[r] = true
	}
	return s.number()
}

func TestExamples(t *testing.T) {
	for _, c := range []struct {
		what string
		w    uint32
		want answer
	}{
		{"add 1 2 3", add(1, 2, 3), answer{12, 2, false, false}},
		{"call 5", call(5), answer{0, 32768, true, false}},
		{"calls 15", calls(15), answer{32768, 32768, true, true}},
		{"calls 2", calls(2), answer{4, 32768, true, false}},
		{"go 15", goTo(15), answer{32768, 0, true, false}},
		{"move 3 15", move(3, 15), answer{32768, 8, true, true}},
		{"zero 1 0", zero(1, 0), answer{2, 0, false, true}},
		{"1", 1, answer{0, 0, false, true}},
	} {
		if got := told(c.w); got != c.want {
			t.Errorf("P13.1, P13.2: %s: %v, not %v", c.what, got, c.want)
		}
	}
	all(t, "the example", []uint32{set(1, 5), add(2, 1, 3)}, 8, 6)
}

// sets holds Reads and Writes of a word.
func sets(t *testing.T, what string, w uint32, reads, writes uint16) {
	t.Helper()
	if r, s := touch.Reads(w), touch.Writes(w); r != reads || s != writes {
		t.Errorf("P13.1: %s: Reads %d, Writes %d; not %d, %d", what, r, s, reads, writes)
	}
}

// TestEachOpWithEachRegister has the same register in all fields of each op, written out op by op.
func TestEachOpWithEachRegister(t *testing.T) {
	for r := range uint32(16) {
		s := of(r)
		for _, n := range []int{-16384, -1, 0, 1, 16383} {
			sets(t, fmt.Sprint("set ", r, n), set(r, n), 0, s)
			sets(t, fmt.Sprint("load ", r, r, n), load(r, r, n), s, s)
			sets(t, fmt.Sprint("store ", r, r, n), store(r, r, n), s, 0)
			sets(t, fmt.Sprint("out ", r, n), out(r, n), s, 0)
		}
		for _, n := range []int{0, 1, 16383} {
			sets(t, fmt.Sprint("zero ", r, n), zero(r, n), s, 0)
			sets(t, fmt.Sprint("place ", r, n), place(r, n), 0, s)
		}
		for op := uint32(3); op <= 10; op++ {
			sets(t, fmt.Sprint(names[op], " of ", r), ins(op, r, r, r, 0), s, s)
		}
		sets(t, fmt.Sprint("move ", r, r), move(r, r), s, s)
		sets(t, fmt.Sprint("in ", r), in(r), 0, s)
		sets(t, fmt.Sprint("go ", r), goTo(r), s, 0)
		sets(t, fmt.Sprint("calls ", r), calls(r), s, link)
	}
	for _, n := range []int{0, 1, 16383} {
		sets(t, fmt.Sprint("jump ", n), jump(n), 0, 0)
		sets(t, fmt.Sprint("call ", n), call(n), 0, link)
	}
	sets(t, "trap", trap, 0, 0)
	sets(t, "halt", halt, 0, 0)
}

// TestThreeThatDiffer has each register in each field, with others in the other fields.
func TestThreeThatDiffer(t *testing.T) {
	for r := range uint32(16) {
		for k := uint32(1); k < 15; k++ {
			second, third := (r+k)%16, (r+k+1)%16
			what := fmt.Sprint(" ", r, second, third)
			for op := uint32(3); op <= 10; op++ {
				sets(t, names[op]+what, ins(op, r, second, third, 0), of(second, third), of(r))
			}
			sets(t, "move"+what, move(r, second), of(second), of(r))
			sets(t, "load"+what, load(r, second, int(k)), of(second), of(r))
			sets(t, "store"+what, store(second, third, int(k)), of(second, third), 0)
		}
	}
}

func TestTwoThatAreTheSame(t *testing.T) {
	for op := uint32(3); op <= 10; op++ {
		sets(t, names[op]+" D A", ins(op, 4, 4, 7, 0), of(4, 7), of(4))
		sets(t, names[op]+" D B", ins(op, 4, 7, 4, 0), of(4, 7), of(4))
		sets(t, names[op]+" A B", ins(op, 7, 4, 4, 0), of(4), of(7))
		sets(t, names[op]+" 0 0 15", ins(op, 0, 0, 15, 0), of(0, 15), of(0))
		sets(t, names[op]+" 15 0 15", ins(op, 15, 0, 15, 0), of(0, 15), of(15))
	}
}

// noInstructions are words that look like instructions, most of them like those that touch the link register.
func noInstructions() map[string]uint32 {
	return map[string]uint32{
		"one": 1, "all bits": math.MaxUint32, "the two highest bits": 3 << 30, "trap with an N": trap | 5, "trap with a D": trap | 15<<23, "halt with an A": halt | 15<<19, "halt with an N": halt | 1,
		"the op 22": ins(22, 0, 0, 0, 0), "the op 22 of 15": ins(22, 15, 15, 15, 0), "the op 31 of 15": ins(31, 15, 15, 15, -1), "the op 23": ins(23, 1, 2, 3, 0),
		"set with an A": ins(1, 15, 15, 0, 5), "set with a B": ins(1, 15, 0, 15, 5), "move with a B": ins(2, 15, 15, 15, 0), "move with an N": ins(2, 15, 15, 0, 1),
		"add with an N": ins(3, 15, 15, 15, 1), "same with an N": ins(10, 1, 2, 3, -1), "load with a B": ins(11, 15, 15, 1, 0), "store with a D": ins(12, 1, 15, 15, 0),
		"in with an A": ins(13, 15, 1, 0, 0), "in with an N": ins(13, 15, 0, 0, 1), "out with a D": ins(14, 1, 15, 0, 0), "out with a B": ins(14, 0, 15, 1, 0),
		"jump with an A": ins(15, 0, 15, 0, 5), "jump to too much": ins(15, 0, 0, 0, 16384), "zero with a D": ins(16, 15, 15, 0, 0), "zero to too much": ins(16, 0, 15, 0, 16384),
		"call with a D": ins(17, 15, 0, 0, 5), "call with an A": ins(17, 0, 15, 0, 5), "call to too much": ins(17, 0, 0, 0, -1), "calls with an N": ins(18, 0, 15, 0, 1),
		"calls with a D": ins(18, 15, 15, 0, 0), "calls with a B": ins(18, 0, 2, 1, 0), "go with a D": ins(19, 15, 15, 0, 0), "go with a B": ins(19, 0, 15, 15, 0), "go with an N": ins(19, 0, 15, 0, 1),
		"place with an A": ins(20, 15, 15, 0, 0), "place of too much": ins(20, 15, 0, 0, 16384), "place below 0": ins(20, 15, 0, 0, -1),
	}
}

func TestWordsThatAreNoInstruction(t *testing.T) {
	for what, w := range noInstructions() {
		if got := told(w); got != (answer{alone: true}) {
			t.Errorf("P13.1, P13.2: %s: %v; nothing is read or written, and it is alone", what, got)
		}
		all(t, what, []uint32{w}, 0, 0)
	}
}

// linked holds Links and Alone of a word.
func linked(t *testing.T, what string, w uint32, links, alone bool) {
	t.Helper()
	if l, a := touch.Links(w), touch.Alone(w); l != links || a != alone {
		t.Errorf("P13.2: %s: Links %t, Alone %t; not %t, %t", what, l, a, links, alone)
	}
}

// TestLinkInEachField has the link register in each field of each op that is neither Zero, nor Go, nor Calls, alone there and with others.
func TestLinkInEachField(t *testing.T) {
	for op := uint32(1); op <= 14; op++ {
		linked(t, names[op]+" of others", fitting(op, 1, 2, 3, 4), false, false)
		linked(t, names[op]+" of 14", fitting(op, 14, 14, 14, 4), false, false)
		linked(t, names[op]+" of 0", fitting(op, 0, 0, 0, 0), false, false)
		linked(t, names[op]+" of 7", fitting(op, 7, 7, 7, 15), false, false)
		linked(t, names[op]+" of 15", fitting(op, 15, 15, 15, 4), true, true)
		for field, w := range map[string]uint32{"D": fitting(op, 15, 2, 3, 4), "A": fitting(op, 1, 15, 3, 4), "B": fitting(op, 1, 2, 15, 4)} {
			is := strings.Contains(fields[op], field)
			linked(t, names[op]+" with 15 as "+field, w, is, is)
		}
	}
	linked(t, "place 15", place(15, 0), true, true)
	linked(t, "place 14", place(14, 15), false, false)
	linked(t, "place 0", place(0, 15), false, false)
	linked(t, "set 1 15", set(1, 15), false, false)
	linked(t, "jump", jump(5), false, false)
	linked(t, "jump 15", jump(15), false, false)
	linked(t, "trap", trap, false, false)
	linked(t, "halt", halt, false, false)
}

// TestWhatIsAloneOtherwise has the ops of which P13.2 speaks by their names.
func TestWhatIsAloneOtherwise(t *testing.T) {
	for r := range uint32(15) {
		linked(t, fmt.Sprint("go ", r), goTo(r), false, false)
		linked(t, fmt.Sprint("calls ", r), calls(r), true, false)
		linked(t, fmt.Sprint("zero ", r), zero(r, 3), false, true)
	}
	linked(t, "go 15", goTo(15), true, false)
	linked(t, "calls 15", calls(15), true, true)
	linked(t, "zero 15", zero(15, 0), true, true)
	for _, n := range []int{0, 1, 15, 16383} {
		linked(t, fmt.Sprint("call ", n), call(n), true, false)
		linked(t, fmt.Sprint("zero 1 ", n), zero(1, n), false, true)
	}
}
