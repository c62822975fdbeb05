package number_test

import (
	"fmt"
	"math"
	"slices"
	"testing"

	"pleat/api"
	"pleat/number"
)

const (
	trap = 0
	halt = 21 << 27
)

// ins tells a word by the bits that chapter 2 says.
func ins(op, d, a, b uint32, n int) uint32 {
	return op<<27 | d<<23 | a<<19 | b<<15 | uint32(n)&0x7fff
}

func set(d uint32, n int) uint32      { return ins(1, d, 0, 0, n) }
func move(d, a uint32) uint32         { return ins(2, d, a, 0, 0) }
func add(d, a, b uint32) uint32       { return ins(3, d, a, b, 0) }
func load(d, a uint32, n int) uint32  { return ins(11, d, a, 0, n) }
func store(a, b uint32, n int) uint32 { return ins(12, 0, a, b, n) }
func in(d uint32) uint32              { return ins(13, d, 0, 0, 0) }
func out(a uint32, n int) uint32      { return ins(14, 0, a, 0, n) }
func jump(n int) uint32               { return ins(15, 0, 0, 0, n) }
func zero(a uint32, n int) uint32     { return ins(16, 0, a, 0, n) }
func call(n int) uint32               { return ins(17, 0, 0, 0, n) }
func calls(a uint32) uint32           { return ins(18, 0, a, 0, 0) }
func goTo(a uint32) uint32            { return ins(19, 0, a, 0, 0) }
func place(d uint32, n int) uint32    { return ins(20, d, 0, 0, n) }

func text(words ...uint32) api.Image { return api.Image{Text: words} }

func entered(at int, words ...uint32) api.Image { return api.Image{Text: words, Entry: at} }

func row(numbers ...int) []int { return numbers }

// rising tells the numbers from 0 on, that many.
func rising(size int) []int {
	l := make([]int, size)
	for k := range l {
		l[k] = k
	}
	return l
}

func numbered(t *testing.T, what string, x api.Image, want ...int) {
	t.Helper()
	if got, e := number.Of(x); e != api.OK || !slices.Equal(got, want) {
		t.Errorf("P15.1: %s: Of is %v, %d; not %v", what, got[:min(len(got), 40)], e, want[:min(len(want), 40)])
	}
}

func TestExamples(t *testing.T) {
	numbered(t, "the first one", text(set(1, 5), out(1, 2), set(1, 5), call(0), out(1, 2), call(0), halt), 0, 1, 0, 2, 1, 2, 3)
	numbered(t, "the second one", text(zero(1, 0), zero(1, 0), move(2, 15), move(2, 15), goTo(15), goTo(15), 1, 1, trap), 0, 1, 2, 3, 4, 4, 5, 6, 7)
	if n := number.Count(row(0, 1, 0, 7)); n != 3 {
		t.Errorf("P15.3: Count of 0 1 0 7 is %d", n)
	}
	if n := number.Count(nil); n != 0 {
		t.Errorf("P15.3: Count of nothing is %d", n)
	}
	if !number.Same(set(1, 5), set(1, 5)) || number.Same(1, 1) {
		t.Error("P15.2: Same of set 1 5 and itself, or of 1 and itself")
	}
}

func TestImagesThatMayNotBe(t *testing.T) {
	memory := make([]int64, 4097)
	for _, c := range []struct {
		what string
		x    api.Image
		e    api.Errno
	}{
		{"nothing", api.Image{}, api.ErrImage},
		{"an empty text", api.Image{Text: []uint32{}, Memory: []int64{1}}, api.ErrImage},
		{"no text, all else wrong", api.Image{Entry: -1, Memory: memory}, api.ErrImage},
		{"too long a text", text(make([]uint32, 16385)...), api.ErrLarge},
		{"too long a text, a large memory", api.Image{Text: make([]uint32, 16385), Memory: memory}, api.ErrLarge},
		{"too large a memory", api.Image{Text: []uint32{halt}, Memory: memory}, api.ErrData},
		{"too large a memory, an Entry behind", api.Image{Text: []uint32{halt}, Entry: 1, Memory: memory}, api.ErrData},
		{"an Entry below", entered(-1, out(1, 2), halt), api.ErrEntry},
		{"an Entry at the end", entered(2, out(1, 2), halt), api.ErrEntry},
		{"an Entry far behind", entered(math.MaxInt, out(1, 2), goTo(1)), api.ErrEntry},
		{"an Entry far below", entered(math.MinInt, goTo(1), jump(9)), api.ErrEntry},
		{"a jump behind", text(jump(2), halt), api.ErrPlace},
		{"a zero behind", text(zero(1, 2), halt), api.ErrPlace},
		{"a call behind", text(call(2), halt), api.ErrPlace},
		{"a place behind", text(place(1, 16383), goTo(1)), api.ErrPlace},
		{"a place behind, and no end", text(place(1, 2), out(1, 2)), api.ErrPlace},
		{"a jump behind, at the end", text(halt, halt, jump(3)), api.ErrPlace},
		{"a set at the end", text(halt, set(1, 5)), api.ErrImage},
		{"a call at the end", text(goTo(15), call(0)), api.ErrImage},
		{"a calls at the end", text(goTo(15), calls(1)), api.ErrImage},
		{"a zero at the end", text(halt, zero(1, 0)), api.ErrImage},
		{"a place at the end", text(halt, place(1, 0)), api.ErrImage},
		{"no instruction at the end", text(halt, 1), api.ErrImage},
	} {
		if l, e := number.Of(c.x); e != c.e || len(l) != 0 {
			t.Errorf("P15.1: %s: Of tells %d numbers, %d; not none, %d", c.what, len(l), e, c.e)
		}
	}
}

func TestOneWord(t *testing.T) {
	for name, w := range map[string]uint32{"trap": trap, "halt": halt, "jump": jump(0), "go": goTo(3), "go of the link register": goTo(15)} {
		numbered(t, name, text(w), 0)
		numbered(t, name+" with a memory", api.Image{Text: []uint32{w}, Memory: make([]int64, 4096)}, 0)
		for _, size := range []int{2, 3, 10, 100} {
			numbered(t, fmt.Sprint(name, ", times ", size), entered(size-1, slices.Repeat([]uint32{w}, size)...), make([]int, size)...)
		}
	}
}

func TestWordsThatAreAllUnlike(t *testing.T) {
	words := []uint32{halt, trap, set(0, 0), move(0, 0), in(0), out(0, 0), add(0, 0, 0), load(0, 0, 0), store(0, 0, 0), zero(0, 0), call(0), calls(0), goTo(0), place(0, 0), jump(0)}
	numbered(t, "one of each", text(words...), rising(len(words))...)
	for size := 1; size <= 40; size++ {
		words := make([]uint32, size)
		for p := range words {
			words[p] = jump(p)
		}
		numbered(t, "jumps to all places", text(words...), rising(size)...)
	}
}

// lonely are words that are alone, and can stand in a text of any size.
func lonely() map[string]uint32 {
	return map[string]uint32{
		"zero": zero(1, 0), "zero of the link register": zero(15, 0), "zero of 0": zero(0, 0),
		"one": 1, "all bits": math.MaxUint32, "trap with a D": 15 << 23, "halt with an N": halt | 1, "the op 22": ins(22, 0, 0, 0, 0), "the op 31": ins(31, 15, 15, 15, -1),
		"set with an A": ins(1, 1, 1, 0, 5), "move with an N": ins(2, 1, 2, 0, 1), "jump to too much": ins(15, 0, 0, 0, 16384), "call with a D": ins(17, 1, 0, 0, 0),
		"calls with an N": ins(18, 0, 2, 0, 1), "go with a B": ins(19, 0, 15, 1, 0), "call to too much": ins(17, 0, 0, 0, -1), "place of too much": ins(20, 1, 0, 0, 16384),
		"set 15": set(15, 5), "move 15 2": move(15, 2), "move 2 15": move(2, 15), "add 15": add(15, 1, 2), "add of 15": add(1, 15, 2), "add, 15 at the end": add(1, 2, 15),
		"same 15": ins(10, 1, 15, 15, 0), "less 15": ins(9, 15, 0, 0, 0), "load 15": load(15, 1, 0), "load from 15": load(1, 15, 0), "store at 15": store(15, 1, 0), "store 15": store(1, 15, 0),
		"in 15": in(15), "out 15": out(15, 0), "place 15": place(15, 0), "calls 15": calls(15),
	}
}

// common are words that are not alone, and can stand in a text of any size.
func common() map[string]uint32 {
	l := map[string]uint32{
		"trap": trap, "halt": halt, "set": set(1, 15), "set below 0": set(0, -1), "move": move(2, 14), "add": add(1, 2, 3), "same": ins(10, 14, 14, 14, 0), "load": load(1, 2, 15), "store": store(1, 2, -16384),
		"in": in(14), "out": out(0, 16383), "jump": jump(0), "call": call(0), "place": place(14, 0), "go 15": goTo(15), "go 0": goTo(0), "go 14": goTo(14),
	}
	for r := range uint32(15) {
		l[fmt.Sprint("calls ", r)] = calls(r)
	}
	return l
}

func TestWordsThatAreAlone(t *testing.T) {
	for name, w := range lonely() {
		numbered(t, name, text(w, halt), 0, 1)
		numbered(t, name+" twice", text(w, w, halt), 0, 1, 2)
		numbered(t, name+" twice, others between", text(w, trap, w, trap, halt), 0, 1, 2, 1, 3)
		numbered(t, name+" thrice, with words that come again behind", text(set(1, 5), w, set(1, 5), w, out(1, 2), w, out(1, 2), set(1, 5), halt), 0, 1, 0, 2, 3, 4, 3, 0, 5)
		numbered(t, name+" behind what comes again", text(halt, halt, w, halt, w, halt), 0, 0, 1, 0, 2, 0)
		numbered(t, name+" many times", text(append(slices.Repeat([]uint32{w}, 200), halt)...), rising(201)...)
		for other, v := range lonely() {
			numbered(t, name+" and "+other, text(w, v, halt, v, w, halt), 0, 1, 2, 3, 4, 2)
		}
	}
}

func TestWordsThatAreNotAlone(t *testing.T) {
	for name, w := range common() {
		numbered(t, name, text(w, goTo(13)), 0, 1)
		numbered(t, name+" twice", text(w, w, goTo(13)), 0, 0, 1)
		numbered(t, name+" twice, one between", text(w, out(5, 5), w, goTo(13)), 0, 1, 0, 2)
		numbered(t, name+" far behind itself", text(slices.Concat([]uint32{w}, slices.Repeat([]uint32{1}, 100), []uint32{w, goTo(13)})...), append(rising(101), 0, 101)...)
		for other, v := range lonely() {
			numbered(t, name+" and "+other, text(v, w, v, w, v, goTo(13)), 0, 1, 2, 1, 3, 4)
		}
		for other, v := range common() {
			if v != w {
				numbered(t, name+" and "+other, text(w, v, v, w, goTo(13)), 0, 1, 1, 0, 2)
			}
		}
	}
}

// TestLinkRegister has what P13.2 leaves out of those that touch the link register, beside what it does not.
func TestLinkRegister(t *testing.T) {
	numbered(t, "go of 15 and of others", text(goTo(15), goTo(14), goTo(15), goTo(14), goTo(15)), 0, 1, 0, 1, 0)
	numbered(t, "calls of 15 and of others", text(calls(15), calls(14), calls(15), calls(14), calls(15), halt), 0, 1, 2, 1, 3, 4)
	numbered(t, "call 15 and calls 15", text(slices.Concat([]uint32{call(15), calls(15), call(15), calls(15)}, slices.Repeat([]uint32{halt}, 12))...), slices.Concat(row(0, 1, 0, 2), slices.Repeat(row(3), 12))...)
	numbered(t, "the trap", text(trap, set(15, 0), trap, set(15, 0), trap), 0, 1, 0, 2, 0)
	numbered(t, "set 15 and set 14", text(set(15, 1), set(14, 1), set(15, 1), set(14, 1), halt), 0, 1, 2, 1, 3)
	numbered(t, "15 as a number", text(set(1, 15), out(2, 15), set(1, 15), out(2, 15), halt), 0, 1, 0, 1, 2)
}

func TestTargets(t *testing.T) {
	for name, to := range map[string]func(int) uint32{"call": call, "jump": jump, "place": func(n int) uint32 { return place(1, n) }} {
		numbered(t, name+" to one place", text(to(1), to(1), to(1), halt), 0, 0, 0, 1)
		numbered(t, name+" to two places", text(to(0), to(1), to(0), to(1), halt), 0, 1, 0, 1, 2)
		numbered(t, name+" as far away", text(to(1), to(2), to(3), to(0), halt), 0, 1, 2, 3, 4)
	}
	numbered(t, "calls and jumps of one place", text(call(1), jump(1), place(1, 1), call(1), jump(1), place(1, 1), halt), 0, 1, 2, 0, 1, 2, 3)
	numbered(t, "zeros of one place", text(zero(1, 1), zero(1, 1), call(1), call(1), halt), 0, 1, 2, 2, 3)
	numbered(t, "whatever the Entry is", entered(2, call(0), call(0), call(1), call(0), halt), 0, 0, 1, 0, 2)
}

// TestWordsThatDifferInOneField has pairs of which nothing but one field is unlike.
func TestWordsThatDifferInOneField(t *testing.T) {
	for what, pair := range map[string][2]uint32{
		"ops, add and sub": {add(1, 2, 3), ins(4, 1, 2, 3, 0)}, "ops, less and same": {ins(9, 1, 2, 3, 0), ins(10, 1, 2, 3, 0)}, "ops, calls and go": {calls(2), goTo(2)}, "ops, jump and call": {jump(1), call(1)},
		"ops, set and place": {set(1, 1), place(1, 1)}, "ops, trap and halt": {trap, halt}, "ops, in and set": {in(1), set(1, 0)}, "ops, move and load": {move(1, 2), load(1, 2, 0)},
		"D of set": {set(1, 5), set(2, 5)}, "D of move": {move(1, 5), move(9, 5)}, "D of add": {add(0, 2, 3), add(14, 2, 3)}, "D of load": {load(1, 2, 3), load(3, 2, 3)}, "D of in": {in(0), in(8)}, "D of place": {place(1, 0), place(0, 0)},
		"A of move": {move(1, 2), move(1, 3)}, "A of add": {add(1, 2, 3), add(1, 3, 3)}, "A of load": {load(1, 2, 3), load(1, 3, 3)}, "A of store": {store(1, 2, 3), store(2, 2, 3)}, "A of out": {out(1, 2), out(2, 2)}, "A of calls": {calls(1), calls(2)}, "A of go": {goTo(1), goTo(15)},
		"B of add": {add(1, 2, 3), add(1, 2, 4)}, "B of store": {store(1, 2, 3), store(1, 10, 3)},
		"N of set": {set(1, 5), set(1, -5)}, "N of load": {load(1, 2, 0), load(1, 2, -16384)}, "N of store": {store(1, 2, 0), store(1, 2, 1)}, "N of out": {out(1, 16383), out(1, -1)}, "N of jump": {jump(0), jump(1)}, "N of call": {call(2), call(3)}, "N of place": {place(1, 0), place(1, 4)},
		"D and A of add": {add(1, 2, 3), add(2, 1, 3)}, "A and B of add": {add(1, 2, 3), add(1, 3, 2)},
	} {
		v, w := pair[0], pair[1]
		numbered(t, what, text(v, w, v, w, goTo(13)), 0, 1, 0, 1, 2)
		numbered(t, what, text(w, w, v, v, goTo(13)), 0, 0, 1, 1, 2)
	}
}
