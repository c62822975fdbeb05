package edge_test

import (
	"fmt"
	"math"
	"slices"
	"testing"

	"pleat/api"
	"pleat/edge"
)

const (
	trap = 0
	halt = 21 << 27
)

// ins tells a word by the bits that chapter 2 says.
func ins(op, d, a, b uint32, n int) uint32 {
	return op<<27 | d<<23 | a<<19 | b<<15 | uint32(n)&0x7fff
}

func set(d uint32, n int) uint32   { return ins(1, d, 0, 0, n) }
func move(d, a uint32) uint32      { return ins(2, d, a, 0, 0) }
func jump(n int) uint32            { return ins(15, 0, 0, 0, n) }
func zero(a uint32, n int) uint32  { return ins(16, 0, a, 0, n) }
func call(n int) uint32            { return ins(17, 0, 0, 0, n) }
func calls(a uint32) uint32        { return ins(18, 0, a, 0, 0) }
func goTo(a uint32) uint32         { return ins(19, 0, a, 0, 0) }
func place(d uint32, n int) uint32 { return ins(20, d, 0, 0, n) }

func text(words ...uint32) api.Image { return api.Image{Text: words} }

func entered(at int, words ...uint32) api.Image { return api.Image{Text: words, Entry: at} }

// lists tells its arguments as one list of lists.
func lists(l ...[]int) [][]int { return l }

func to(numbers ...int) []int { return numbers }

func alike(a, b [][]int) bool { return slices.EqualFunc(a, b, slices.Equal[[]int]) }

func edges(t *testing.T, what string, x api.Image, want ...[]int) {
	t.Helper()
	if got, e := edge.Edges(x); e != api.OK || !alike(got, want) {
		t.Errorf("P12.1: %s: Edges is %v, %d; not %v", what, got, e, want)
	}
}

// reached holds Reached against one letter a block: y, if control can come to it, n, if not.
func reached(t *testing.T, what string, x api.Image, want string) {
	t.Helper()
	l, e := edge.Reached(x)
	got := ""
	for _, is := range l {
		got += map[bool]string{true: "y", false: "n"}[is]
	}
	if e != api.OK || got != want {
		t.Errorf("P12.3: %s: Reached is %.300s, %d; not %.300s", what, got, e, want)
	}
}

func backs(t *testing.T, what string, l [][]int, want ...[]int) {
	t.Helper()
	if got := edge.Back(l); !alike(got, want) {
		t.Errorf("P12.2: %s: Back of %v is %v, not %v", what, l, got, want)
	}
}

func TestExamples(t *testing.T) {
	x := text(set(1, 5), call(3), halt, goTo(15))
	edges(t, "the first one", x, to(2), nil, to(1))
	reached(t, "the first one", x, "yyy")
	x = entered(1, place(1, 3), zero(1, 0), jump(0), trap)
	edges(t, "the second one", x, to(1), to(0, 2), to(0), nil)
	reached(t, "the second one", x, "yyyn")
	x = text(place(1, 0), goTo(1))
	edges(t, "the third one", x, to(0))
	reached(t, "the third one", x, "y")
	backs(t, "the fourth one", lists(to(1, 2), to(2), to()), nil, to(0), to(0, 1))
}

// halts tells a text of that many words, each of which is a block.
func halts(size int) []uint32 {
	words := make([]uint32, size)
	for p := range words {
		words[p] = halt
	}
	return words
}

func TestImagesThatMayNotBe(t *testing.T) {
	memory := make([]int64, 4097)
	for _, c := range []struct {
		what string
		x    api.Image
		e    api.Errno
	}{
		{"nothing", api.Image{}, api.ErrImage},
		{"an empty text", api.Image{Text: []uint32{}, Memory: []int64{1}}, api.ErrImage},
		{"no text, all else wrong", api.Image{Entry: -1, Memory: memory}, api.ErrImage},
		{"too long a text", text(halts(16385)...), api.ErrLarge},
		{"too long a text, a large memory", api.Image{Text: halts(16385), Memory: memory}, api.ErrLarge},
		{"too large a memory", api.Image{Text: halts(1), Memory: memory}, api.ErrData},
		{"too large a memory, an Entry behind", api.Image{Text: halts(1), Entry: 1, Memory: memory}, api.ErrData},
		{"an Entry below", entered(-1, halt), api.ErrEntry},
		{"an Entry at the end", entered(1, halt), api.ErrEntry},
		{"an Entry far behind", entered(math.MaxInt, halt), api.ErrEntry},
		{"an Entry far below", entered(math.MinInt, halt, jump(9)), api.ErrEntry},
		{"a jump behind", text(jump(2), halt), api.ErrPlace},
		{"a zero behind", text(zero(1, 2), halt), api.ErrPlace},
		{"a call behind", text(call(2), halt), api.ErrPlace},
		{"a place behind", text(place(1, 16383), halt), api.ErrPlace},
		{"a place behind, and no end", text(place(1, 2), set(1, 5)), api.ErrPlace},
		{"a set at the end", text(call(1), set(1, 5)), api.ErrImage},
		{"a call at the end", text(halt, call(0)), api.ErrImage},
		{"a calls at the end", text(halt, calls(1)), api.ErrImage},
		{"a zero at the end", text(halt, zero(1, 0)), api.ErrImage},
		{"a place at the end", text(halt, place(1, 0)), api.ErrImage},
		{"no instruction at the end", text(halt, 1), api.ErrImage},
	} {
		if got, e := edge.Edges(c.x); e != c.e || len(got) != 0 {
			t.Errorf("P12.1: %s: Edges has %d lists, %d; not none, %d", c.what, len(got), e, c.e)
		}
		if got, e := edge.Reached(c.x); e != c.e || len(got) != 0 {
			t.Errorf("P12.3: %s: Reached tells of %d blocks, %d; not none, %d", c.what, len(got), e, c.e)
		}
	}
}

// TestEndsInEachOp has each op at the end of a block, which others follow, and at the end of the first one.
func TestEndsInEachOp(t *testing.T) {
	s := set(1, 2)
	for _, c := range []struct {
		name  string
		w     uint32
		wants []int // of the block 1 of four, whose last one is a jump's label
	}{
		{"trap", trap, nil}, {"halt", halt, nil}, {"no instruction", 1, nil}, {"no op", 22 << 27, nil}, {"all bits", math.MaxUint32, nil},
		{"a jump with a bit too many", jump(6) | 1<<19, nil}, {"a go with a bit too many", goTo(1) | 1, nil}, {"a place of too much", place(1, 1) | 1<<14, nil},
		{"jump", jump(6), to(3)}, {"jump back", jump(0), to(0)}, {"jump to the next one", jump(4), to(2)}, {"jump to itself", jump(2), to(1)},
		{"call", call(6), to(3)}, {"call back", call(0), to(0)}, {"call to the next one", call(4), to(2)}, {"call to itself", call(2), to(1)},
		{"zero", zero(3, 6), to(2, 3)}, {"zero back", zero(3, 0), to(0, 2)}, {"zero to the next one", zero(3, 4), to(2)}, {"zero to itself", zero(3, 2), to(1, 2)},
		{"calls", calls(3), to(2)}, {"calls 15", calls(15), to(2)}, {"go", goTo(3), nil}, {"go 15", goTo(15), nil},
	} {
		x := entered(2, s, jump(6), s, c.w, s, jump(6), s, halt)
		edges(t, "behind "+c.name, x, to(3), c.wants, to(3), nil)
	}
	edges(t, "trap ahead", text(trap, halt), nil, nil)
	edges(t, "halt ahead", text(halt, halt), nil, nil)
	edges(t, "no instruction ahead", text(1, halt), nil, nil)
	edges(t, "jump ahead", text(jump(1), halt), to(1), nil)
	edges(t, "zero ahead", text(zero(1, 1), halt), to(1), nil)
	edges(t, "zero ahead, to itself", text(zero(1, 0), halt), to(0, 1), nil)
	edges(t, "call ahead, to itself", text(call(0), halt), to(0), nil)
	edges(t, "calls ahead", text(calls(1), halt), to(1), nil)
	edges(t, "go ahead", text(goTo(1), halt), nil, nil)
}

// TestEndsByALabel has each op that does not end a block ahead of a label.
func TestEndsByALabel(t *testing.T) {
	s := set(1, 2)
	for name, w := range map[string]uint32{
		"set": s, "move": move(1, 2), "add": ins(3, 1, 2, 3, 0), "sub": ins(4, 1, 2, 3, 0), "mul": ins(5, 1, 2, 3, 0), "and": ins(6, 1, 2, 3, 0),
		"or": ins(7, 1, 2, 3, 0), "xor": ins(8, 1, 2, 3, 0), "less": ins(9, 1, 2, 3, 0), "same": ins(10, 1, 2, 3, 0), "load": ins(11, 1, 2, 0, 3),
		"store": ins(12, 0, 1, 2, 3), "in": ins(13, 1, 0, 0, 0), "out": ins(14, 0, 1, 0, 2), "place": place(1, 0), "place of the next one": place(1, 2),
		"place of the last one": place(15, 4), "move 15": move(15, 15), "load 15": ins(11, 15, 15, 0, -1),
	} {
		edges(t, "a jump's label behind "+name, text(s, w, s, jump(2), jump(4)), to(1), to(1), to(2))
		edges(t, "the entry behind "+name, entered(2, s, w, s, zero(3, 4), halt), to(1), to(2), nil)
		edges(t, "two of one instruction, "+name, entered(1, w, w, zero(3, 2), call(4), halt), to(1), to(2), to(2, 3), to(4), nil)
	}
	edges(t, "a call's label", text(s, s, call(1), halt), to(1), to(1), nil)
	edges(t, "a zero's label", text(s, s, zero(1, 1), halt), to(1), to(1, 2), nil)
	edges(t, "a place's label", text(s, place(1, 1), goTo(1)), to(1), to(1))
}

func TestOneWordAndTheLastBlock(t *testing.T) {
	s := set(1, 2)
	for _, c := range []struct {
		name string
		w    uint32
		own  []int // of a text of this word alone
	}{{"trap", trap, nil}, {"halt", halt, nil}, {"go", goTo(1), nil}, {"jump", jump(0), to(0)}} {
		edges(t, "one word, "+c.name, text(c.w), c.own)
		reached(t, "one word, "+c.name, text(c.w), "y")
		edges(t, "the last word, "+c.name, text(jump(2), 1, c.w), to(2), nil, c.own)
	}
	edges(t, "the last block, jump to itself", text(jump(1), s, s, jump(1)), to(1), to(1))
	edges(t, "the last block, go to a site", text(call(1), s, goTo(15)), to(1), to(1))
	edges(t, "the last block, go to itself and others", text(place(1, 1), s, goTo(1)), to(1), to(1))
}

// TestLeaps has the two that go where a register says, with and without places that a register can hold.
func TestLeaps(t *testing.T) {
	s := set(1, 2)
	for name, leap := range map[string]uint32{"go": goTo(1), "go 15": goTo(15), "go 0": goTo(0)} {
		edges(t, name+": no place", text(s, leap), to())
		edges(t, name+": labels that are none", entered(1, zero(3, 3), leap, jump(0), halt), to(1, 3), nil, to(0), nil)
		edges(t, name+": a taken label", text(place(4, 3), leap, s, s, halt), to(2), to(2), nil)
		edges(t, name+": taken labels", text(place(4, 3), place(5, 2), leap, s, jump(3)), to(1), to(1, 2), to(2))
		edges(t, name+": a taken label twice", text(place(4, 2), place(5, 2), leap, halt), to(1), to(1), nil)
		edges(t, name+": a taken label in a place that nobody comes to", text(leap, halt, place(1, 1), halt), to(1), nil, nil)
		edges(t, name+": the entry, which is none", entered(1, s, leap), to(1), nil)
		edges(t, name+": return sites", text(call(4), call(4), halt, s, leap), to(4), to(4), nil, to(4), to(1, 2))
		edges(t, name+": a calls' return site", text(calls(2), leap), to(1), to(1))
		edges(t, name+": both", text(place(1, 4), call(3), s, leap, halt), to(2), to(2), to(1, 3), nil)
		edges(t, name+": both, the taken one ahead", text(s, place(1, 1), call(4), halt, leap), to(1), to(3), nil, to(1, 2))
		edges(t, name+": a place that is both", text(place(1, 2), call(3), s, leap), to(2), to(2), to(1))
		edges(t, name+": all kinds", entered(7, place(1, 5), call(6), zero(2, 0), s, call(6), place(1, 3), leap, jump(4)), to(5), to(0, 2), to(3), to(5), to(5), to(1, 2, 4), to(3))
	}
	for name, leap := range map[string]uint32{"calls": calls(1), "calls 15": calls(15), "calls 0": calls(0)} {
		edges(t, name+": its own return site alone", text(s, leap, s, halt), to(1), nil)
		edges(t, name+": labels that are none", entered(1, zero(3, 4), leap, jump(0), s, halt), to(1, 4), to(2), to(0), to(4), nil)
		edges(t, name+": a taken label", text(place(4, 3), leap, s, halt), to(1, 2), to(2), nil)
		edges(t, name+": a taken label that is its return site", text(place(4, 2), leap, s, halt), to(1), nil)
		edges(t, name+": return sites", text(call(1), leap, leap, halt), to(1), to(1, 2, 3), to(1, 2, 3), nil)
		edges(t, name+": all kinds", text(place(1, 0), zero(2, 4), leap, jump(5), halt, s, jump(3)), to(1, 3), to(0, 2), to(4), nil, to(2))
	}
}

// TestWordsThatAreNoPlace has words that look like those by which a leap can go, and are no instruction.
func TestWordsThatAreNoPlace(t *testing.T) {
	for _, w := range []uint32{place(1, 2) | 1<<15, place(1, 2) | 1<<19, place(1, 2) | 1<<14, call(2) | 1<<23, call(2) | 1<<15, calls(1) | 1, calls(1) | 1<<23} {
		edges(t, fmt.Sprintf("%#x", w), text(zero(1, 2), w, goTo(1)), to(1, 2), nil, nil)
	}
}
