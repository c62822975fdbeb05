package block_test

import (
	"fmt"
	"math"
	"slices"
	"testing"

	"pleat/api"
	"pleat/block"
)

const (
	trap = 0
	halt = 21 << 27
)

// ins tells a word by the bits that chapter 2 says.
func ins(op, d, a, b uint32, n int) uint32 {
	return op<<27 | d<<23 | a<<19 | b<<15 | uint32(n)&0x7fff
}

func set(d uint32, n int) uint32   { return ins(1, d, 0, 0, n) }
func jump(n int) uint32            { return ins(15, 0, 0, 0, n) }
func zero(a uint32, n int) uint32  { return ins(16, 0, a, 0, n) }
func call(n int) uint32            { return ins(17, 0, 0, 0, n) }
func calls(a uint32) uint32        { return ins(18, 0, a, 0, 0) }
func goTo(a uint32) uint32         { return ins(19, 0, a, 0, 0) }
func place(d uint32, n int) uint32 { return ins(20, d, 0, 0, n) }

func text(words ...uint32) api.Image { return api.Image{Text: words} }

func entered(at int, words ...uint32) api.Image { return api.Image{Text: words, Entry: at} }

func at(places ...int) []int { return places }

// between tells the blocks that begin at these places, but the last one, at which they end.
func between(places ...int) []api.Block {
	var l []api.Block
	for k := range len(places) - 1 {
		l = append(l, api.Block{From: places[k], To: places[k+1]})
	}
	return l
}

type asked struct {
	name string
	call func(api.Image) ([]int, api.Errno)
}

func lists() []asked {
	return []asked{{"Labels", block.Labels}, {"Taken", block.Taken}, {"Sites", block.Sites}}
}

func tells(t *testing.T, what string, x api.Image, labels, taken, sites []int) {
	t.Helper()
	wanted := [][]int{labels, taken, sites}
	for k, c := range lists() {
		if got, e := c.call(x); e != api.OK || !slices.Equal(got, wanted[k]) {
			t.Errorf("P11.1: %s: %s is %.200v, %d; not %.200v", what, c.name, got, e, wanted[k])
		}
	}
}

func parts(t *testing.T, what string, x api.Image, wanted []api.Block) {
	t.Helper()
	if got, e := block.Blocks(x); e != api.OK || !slices.Equal(got, wanted) {
		t.Errorf("P11.2: %s: Blocks is %.200v, %d; not %.200v", what, got, e, wanted)
	}
}

func TestExamples(t *testing.T) {
	for _, c := range []struct {
		what                 string
		x                    api.Image
		labels, taken, sites []int
		blocks               []api.Block
	}{
		{"the first one", text(set(1, 5), call(3), halt, goTo(15)), at(0, 3), nil, at(2), between(0, 2, 3, 4)},
		{"the second one", entered(1, place(1, 3), zero(1, 0), jump(0), trap), at(0, 1, 3), at(3), nil, between(0, 1, 2, 3, 4)},
		{"the third one", text(halt), at(0), nil, nil, between(0, 1)},
	} {
		tells(t, c.what, c.x, c.labels, c.taken, c.sites)
		parts(t, c.what, c.x, c.blocks)
	}
}

// halts tells a text of that many words, of which none names a place.
func halts(size int) []uint32 {
	words := make([]uint32, size)
	for p := range words {
		words[p] = halt
	}
	return words
}

func TestImagesThatMayNotBe(t *testing.T) {
	memory := make([]int64, 4097)
	for _, c := range []struct {
		what string
		x    api.Image
		e    api.Errno
	}{
		{"nothing", api.Image{}, api.ErrImage},
		{"an empty text", api.Image{Text: []uint32{}, Memory: []int64{1}}, api.ErrImage},
		{"no text, all else wrong", api.Image{Entry: -1, Memory: memory}, api.ErrImage},
		{"too long a text", text(halts(16385)...), api.ErrLarge},
		{"too long a text, a large memory", api.Image{Text: halts(16385), Memory: memory}, api.ErrLarge},
		{"too large a memory", api.Image{Text: halts(1), Memory: memory}, api.ErrData},
		{"too large a memory, an Entry behind", api.Image{Text: halts(1), Entry: 1, Memory: memory}, api.ErrData},
		{"an Entry below", entered(-1, halt), api.ErrEntry},
		{"an Entry at the end", entered(1, halt), api.ErrEntry},
		{"an Entry far behind", entered(math.MaxInt, halt), api.ErrEntry},
		{"an Entry far below", entered(math.MinInt, halt, jump(9)), api.ErrEntry},
		{"a jump behind", text(jump(2), halt), api.ErrPlace},
		{"a zero behind", text(zero(1, 2), halt), api.ErrPlace},
		{"a call behind", text(call(2), halt), api.ErrPlace},
		{"a place behind", text(place(1, 16383), halt), api.ErrPlace},
		{"a place behind, and no end", text(place(1, 2), set(1, 5)), api.ErrPlace},
		{"a set at the end", text(call(1), set(1, 5)), api.ErrImage},
		{"a call at the end", text(halt, call(0)), api.ErrImage},
		{"a calls at the end", text(halt, calls(1)), api.ErrImage},
		{"a zero at the end", text(halt, zero(1, 0)), api.ErrImage},
		{"a place at the end", text(halt, place(1, 0)), api.ErrImage},
		{"no instruction at the end", text(halt, 1), api.ErrImage},
	} {
		for _, ask := range lists() {
			if got, e := ask.call(c.x); e != c.e || len(got) != 0 {
				t.Errorf("P11.1: %s: %s is %.200v, %d; not none, %d", c.what, ask.name, got, e, c.e)
			}
		}
		if got, e := block.Blocks(c.x); e != c.e || len(got) != 0 {
			t.Errorf("P11.2: %s: Blocks is %.200v, %d; not none, %d", c.what, got, e, c.e)
		}
	}
}

func TestLabels(t *testing.T) {
	s := set(1, 2)
	tells(t, "a jump's", text(s, jump(3), s, halt), at(0, 3), nil, nil)
	tells(t, "a zero's", text(s, zero(4, 3), s, halt), at(0, 3), nil, nil)
	tells(t, "a call's", text(s, call(3), s, halt), at(0, 3), nil, at(2))
	tells(t, "a place's", text(s, place(4, 3), s, halt), at(0, 3), at(3), nil)
	tells(t, "one of several words", text(place(1, 4), zero(1, 4), call(4), place(2, 4), jump(4), jump(4)), at(0, 4), at(4), at(3))
	tells(t, "the entry alone", entered(2, s, s, s, halt), at(2), nil, nil)
	tells(t, "the entry that is another's, too", entered(2, jump(2), s, s, halt), at(2), nil, nil)
	tells(t, "the entry beside others", entered(2, jump(3), s, jump(1), halt), at(1, 2, 3), nil, nil)
	tells(t, "place 0 that is none", entered(1, s, jump(1)), at(1), nil, nil)
	tells(t, "place 0 by a jump", entered(1, s, jump(0)), at(0, 1), nil, nil)
	tells(t, "the last place", text(zero(1, 3), s, s, halt), at(0, 3), nil, nil)
	tells(t, "the last place, the entry", entered(3, s, s, s, halt), at(3), nil, nil)
	tells(t, "words that name themselves", text(jump(0), zero(1, 1), place(1, 2), jump(3)), at(0, 1, 2, 3), at(2), nil)
	tells(t, "falling targets", text(jump(4), zero(1, 3), place(1, 2), place(2, 1), jump(0)), at(0, 1, 2, 3, 4), at(1, 2), nil)
	tells(t, "words that nobody comes to", text(halt, jump(2), zero(1, 4), call(3), halt), at(0, 2, 3, 4), nil, at(4))
}

func TestTaken(t *testing.T) {
	s := set(1, 2)
	tells(t, "one that is another's target, too", text(place(1, 3), zero(1, 3), jump(3), call(3), halt), at(0, 3), at(3), at(4))
	tells(t, "a jump's, which is none", text(place(1, 3), jump(2), s, halt), at(0, 2, 3), at(3), nil)
	tells(t, "a zero's and a call's, which are none", text(zero(1, 3), call(4), s, s, halt), at(0, 3, 4), nil, at(2))
	tells(t, "the entry, which is none", entered(1, s, s, halt), at(1), nil, nil)
	tells(t, "the entry that is one, too", entered(1, place(3, 1), s, halt), at(1), at(1), nil)
	tells(t, "place 0", entered(1, place(3, 0), s, halt), at(0, 1), at(0), nil)
	tells(t, "two, falling", text(place(1, 3), place(1, 2), place(0, 3), halt), at(0, 2, 3), at(2, 3), nil)
	for d := range uint32(16) {
		tells(t, fmt.Sprint("in the register ", d), text(place(d, 1), halt), at(0, 1), at(1), nil)
	}
}

func TestSites(t *testing.T) {
	s := set(1, 2)
	tells(t, "behind a call", text(s, call(0), s, halt), at(0), nil, at(2))
	tells(t, "behind a calls", text(s, calls(3), s, halt), at(0), nil, at(2))
	tells(t, "one that is a label, too", text(s, call(2), s, halt), at(0, 2), nil, at(2))
	tells(t, "one that is taken, too", text(place(1, 2), calls(1), s, halt), at(0, 2), at(2), at(2))
	tells(t, "one that is the entry, too", entered(1, calls(1), halt), at(1), nil, at(1))
	tells(t, "behind calls that stand side by side", text(call(0), calls(15), call(0), calls(0), halt), at(0), nil, at(1, 2, 3, 4))
	for a := range uint32(16) {
		tells(t, fmt.Sprint("behind a calls of ", a), text(calls(a), halt), at(0), nil, at(1))
	}
}

// TestWordsThatAreNone asks for words that look like those that count, and are no instruction.
func TestWordsThatAreNone(t *testing.T) {
	for _, w := range []uint32{
		1, math.MaxUint32, 22 << 27, jump(1) | 1<<14, jump(1) | 1<<15, jump(1) | 1<<19, jump(1) | 1<<23, zero(1, 1) | 1<<14, zero(1, 1) | 1<<15,
		zero(1, 1) | 1<<23, call(1) | 1<<14, call(1) | 1<<15, call(1) | 1<<19, call(1) | 1<<23, calls(1) | 1, calls(1) | 1<<15, calls(1) | 1<<23,
		place(1, 1) | 1<<14, place(1, 1) | 1<<15, place(1, 1) | 1<<19, goTo(1) | 1, goTo(1) | 1<<23, halt | 1, halt | 1<<19,
	} {
		x := text(set(1, 1), w, set(1, 1), halt)
		tells(t, fmt.Sprintf("%#x", w), x, at(0), nil, nil)
		parts(t, fmt.Sprintf("%#x", w), x, between(0, 2, 4))
	}
	for _, w := range []uint32{set(1, 1), ins(11, 1, 1, 0, 1), ins(12, 0, 1, 1, 1), ins(14, 0, 1, 0, 1)} {
		tells(t, fmt.Sprintf("%#x, whose N is no place", w), text(set(1, 2), w, halt), at(0), nil, nil)
	}
}

// TestBlocksBehindEachOp has each op in the middle of a text whose places are no labels but for the first one.
func TestBlocksBehindEachOp(t *testing.T) {
	s := set(1, 2)
	for name, w := range map[string]uint32{
		"trap": trap, "jump": jump(0), "zero": zero(1, 0), "call": call(0), "calls": calls(1), "calls 15": calls(15), "go": goTo(1), "go 15": goTo(15),
		"halt": halt, "no instruction": 1, "no op": 22 << 27, "all bits": math.MaxUint32,
	} {
		parts(t, "behind "+name, text(s, s, w, s, s, halt), between(0, 3, 6))
		parts(t, "behind the first one, "+name, text(w, s, s, halt), between(0, 1, 4))
		parts(t, "behind the last but one, "+name, text(s, w, halt), between(0, 2, 3))
		parts(t, "behind two of "+name, text(s, w, w, s, halt), between(0, 2, 3, 5))
		parts(t, "a label behind "+name, text(s, s, w, s, zero(1, 3), halt), between(0, 3, 5, 6))
		parts(t, "the entry behind "+name, entered(3, s, s, w, s, s, halt), between(0, 3, 6))
		parts(t, "a label at "+name, text(s, s, w, s, jump(2)), between(0, 2, 3, 5))
	}
	for name, w := range map[string]uint32{
		"set": s, "move": ins(2, 1, 2, 0, 0), "add": ins(3, 1, 2, 3, 0), "sub": ins(4, 1, 2, 3, 0), "mul": ins(5, 1, 2, 3, 0), "and": ins(6, 1, 2, 3, 0),
		"or": ins(7, 1, 2, 3, 0), "xor": ins(8, 1, 2, 3, 0), "less": ins(9, 1, 2, 3, 0), "same": ins(10, 1, 2, 3, 0), "load": ins(11, 1, 2, 0, 3),
		"store": ins(12, 0, 1, 2, 3), "in": ins(13, 1, 0, 0, 0), "out": ins(14, 0, 1, 0, 2), "place": place(1, 0), "move 15": ins(2, 15, 15, 0, 0),
		"place 15": place(15, 0), "load 15": ins(11, 15, 15, 0, -1),
	} {
		parts(t, "behind "+name, text(s, s, w, s, s, halt), between(0, 6))
		parts(t, "behind the first one, "+name, text(w, halt), between(0, 2))
		parts(t, "a label behind "+name, text(s, s, w, s, jump(3)), between(0, 3, 5))
	}
}

func TestBlocks(t *testing.T) {
	s := set(1, 2)
	for name, w := range map[string]uint32{"trap": trap, "jump": jump(0), "go": goTo(1), "halt": halt} {
		parts(t, "one word, "+name, text(w), between(0, 1))
		parts(t, "the last word, "+name, entered(1, w, w), between(0, 1, 2))
	}
	parts(t, "one block", text(s, s, s, halt), between(0, 4))
	parts(t, "place 0 that is no label", entered(2, s, s, s, jump(3)), between(0, 2, 3, 4))
	parts(t, "a jump's label", text(s, s, s, s, jump(2)), between(0, 2, 5))
	parts(t, "a zero's label", text(s, zero(1, 4), s, s, halt), between(0, 2, 4, 5))
	parts(t, "a call's label", text(s, call(4), s, s, halt), between(0, 2, 4, 5))
	parts(t, "a place's label", text(s, place(1, 4), s, s, halt), between(0, 4, 5))
	parts(t, "the entry alone", entered(3, s, s, s, s, halt), between(0, 3, 5))
	parts(t, "blocks of one instruction that falls", text(s, s, s, place(1, 1), jump(2)), between(0, 1, 2, 5))
	parts(t, "all blocks of one instruction", text(jump(0), jump(1), jump(2), jump(0)), between(0, 1, 2, 3, 4))
	parts(t, "the example that stands twice", text(s, s, s, s, s, s, s, s, halt), between(0, 9))
	parts(t, "the example that is folded", text(call(3), call(3), halt, s, s, s, s, goTo(15)), between(0, 1, 2, 3, 8))
}

// TestLongest has a text of MaxText words, whose last place is a label.
func TestLongest(t *testing.T) {
	words := halts(16384)
	for p := range words[:16383] {
		words[p] = set(1, p%9)
	}
	x := api.Image{Text: words, Memory: make([]int64, 4096)}
	tells(t, "sets", x, at(0), nil, nil)
	parts(t, "sets", x, between(0, 16384))
	x.Entry, words[0], words[16382] = 8191, place(1, 16383), calls(1)
	tells(t, "sets, a place and a calls", x, at(8191, 16383), at(16383), at(16383))
	parts(t, "sets, a place and a calls", x, between(0, 8191, 16383, 16384))
	each := make([]int, 16385)
	for p := range each {
		each[p] = p
	}
	parts(t, "halts", text(halts(16384)...), between(each...))
	for p := range words[:16383] {
		words[p] = call(16383 - p)
	}
	tells(t, "calls", x, each[1:16384], nil, each[1:16384])
}

func numbered(t *testing.T, what string, l []api.Block, place, want int) {
	t.Helper()
	if got := block.Of(l, place); got != want {
		t.Errorf("P11.3: %s: Of %d is %d, not %d", what, place, got, want)
	}
}

func TestOf(t *testing.T) {
	x := entered(4, set(1, 2), call(3), halt, set(2, 2), set(1, 2), zero(1, 0), trap)
	l, _ := block.Blocks(x)
	for p, want := range at(0, 0, 1, 2, 3, 3, 4) {
		numbered(t, "an image's", l, p, want)
	}
	for _, p := range at(-1, -2, 7, 8, 1<<32, math.MinInt, math.MaxInt) {
		numbered(t, "an image's", l, p, -1)
		numbered(t, "no blocks", nil, p, -1)
		numbered(t, "no blocks", []api.Block{}, p, -1)
	}
	numbered(t, "no blocks", nil, 0, -1)
	numbered(t, "no blocks", []api.Block{}, 0, -1)
}

// TestOfAnyList asks lists that are no image's blocks.
func TestOfAnyList(t *testing.T) {
	for what, c := range map[string]struct {
		l      []api.Block
		wanted []int // of the places from -3 on
	}{
		"overlapping":           {[]api.Block{{From: 0, To: 3}, {From: 1, To: 5}, {From: -2, To: 2}}, at(-1, 2, 2, 0, 0, 0, 1, 1, -1)},
		"the same twice":        {[]api.Block{{From: 0, To: 2}, {From: 0, To: 2}}, at(-1, -1, -1, 0, 0, -1)},
		"a wide one behind":     {[]api.Block{{From: 1, To: 2}, {From: -9, To: 9}}, at(1, 1, 1, 1, 0, 1, 1)},
		"a wide one ahead":      {[]api.Block{{From: -9, To: 9}, {From: 1, To: 2}}, at(0, 0, 0, 0, 0, 0, 0)},
		"in another order":      {[]api.Block{{From: 3, To: 4}, {From: -1, To: 1}, {From: 1, To: 3}}, at(-1, -1, 1, 1, 2, 2, 0, -1)},
		"with gaps":             {[]api.Block{{From: -3, To: -2}, {From: 0, To: 1}, {From: 3, To: 4}}, at(0, -1, -1, 1, -1, -1, 2, -1)},
		"empty ones":            {[]api.Block{{}, {From: 1, To: 1}, {From: 0, To: 2}, {From: 2, To: 2}}, at(-1, -1, -1, 2, 2, -1, -1)},
		"turned round":          {[]api.Block{{From: 3, To: -3}, {From: 2, To: 0}, {From: 1, To: 2}}, at(-1, -1, -1, -1, 2, -1, -1)},
		"turned round, alone":   {[]api.Block{{From: 2, To: -1}}, at(-1, -1, -1, -1, -1, -1, -1)},
		"one that is all there": {[]api.Block{{From: math.MinInt, To: math.MaxInt}}, at(0, 0, 0, 0, 0)},
	} {
		for k, want := range c.wanted {
			numbered(t, what, c.l, k-3, want)
		}
	}
	l := []api.Block{{From: math.MinInt, To: math.MaxInt}, {From: math.MaxInt, To: math.MinInt}}
	numbered(t, "the least place", l, math.MinInt, 0)
	numbered(t, "the greatest place but one", l, math.MaxInt-1, 0)
	numbered(t, "the greatest place", l, math.MaxInt, -1)
	long := make([]api.Block, 100000)
	long[99999] = api.Block{From: 5, To: 6}
	numbered(t, "the last one of many", long, 5, 99999)
	numbered(t, "none of many", long, 0, -1)
}
