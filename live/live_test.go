package live_test

import (
	"math"
	"slices"
	"testing"

	"pleat/api"
	"pleat/live"
)

const (
	trap = 0
	halt = 21 << 27
	link = 32768 // the set of the link register alone
)

// ins tells a word by the bits that chapter 2 says.
func ins(op, d, a, b uint32, n int) uint32 {
	return op<<27 | d<<23 | a<<19 | b<<15 | uint32(n)&0x7fff
}

func set(d uint32, n int) uint32      { return ins(1, d, 0, 0, n) }
func move(d, a uint32) uint32         { return ins(2, d, a, 0, 0) }
func add(d, a, b uint32) uint32       { return ins(3, d, a, b, 0) }
func load(d, a uint32, n int) uint32  { return ins(11, d, a, 0, n) }
func store(a, b uint32, n int) uint32 { return ins(12, 0, a, b, n) }
func in(d uint32) uint32              { return ins(13, d, 0, 0, 0) }
func out(a uint32) uint32             { return ins(14, 0, a, 0, 0) }
func jump(n int) uint32               { return ins(15, 0, 0, 0, n) }
func zero(a uint32, n int) uint32     { return ins(16, 0, a, 0, n) }
func call(n int) uint32               { return ins(17, 0, 0, 0, n) }
func calls(a uint32) uint32           { return ins(18, 0, a, 0, 0) }
func goTo(a uint32) uint32            { return ins(19, 0, a, 0, 0) }
func place(d uint32, n int) uint32    { return ins(20, d, 0, 0, n) }

func text(words ...uint32) api.Image { return api.Image{Text: words} }

func entered(at int, words ...uint32) api.Image { return api.Image{Text: words, Entry: at} }

// of tells the set of these registers.
func of(numbers ...uint32) uint16 {
	var set uint16
	for _, r := range numbers {
		set |= 1 << r
	}
	return set
}

func row(sets ...uint16) []uint16 { return sets }

func behind(t *testing.T, what string, x api.Image, want ...uint16) {
	t.Helper()
	if got, e := live.Behind(x); e != api.OK || !slices.Equal(got, want) {
		t.Errorf("P14.2: %s: Behind is %v, %d; not %v", what, got, e, want)
	}
}

func blocks(t *testing.T, what string, x api.Image, wantIn, wantOut []uint16) {
	t.Helper()
	i, o, e := live.Blocks(x)
	if e != api.OK || !slices.Equal(i, wantIn) || !slices.Equal(o, wantOut) {
		t.Errorf("P14.1: %s: Blocks is %v, %v, %d; not %v, %v", what, i, o, e, wantIn, wantOut)
	}
}

func TestExamples(t *testing.T) {
	x := text(set(1, 5), add(2, 1, 1), out(2), halt)
	behind(t, "the first one", x, 2, 4, 0, 0)
	blocks(t, "the first one", x, row(0), row(0))
	x = text(call(2), halt, out(3), goTo(15))
	behind(t, "the second one", x, 32776, 0, 32768, 0)
	blocks(t, "the second one", x, row(8, 0, 32776), row(32776, 0, 0))
	x = text(zero(1, 0), halt)
	behind(t, "the third one", x, 2, 0)
	blocks(t, "the third one", x, row(2, 0), row(2, 0))
}

// halts tells a text of that many words, each of which is a block.
func halts(size int) []uint32 {
	words := make([]uint32, size)
	for p := range words {
		words[p] = halt
	}
	return words
}

func TestImagesThatMayNotBe(t *testing.T) {
	memory := make([]int64, 4097)
	for _, c := range []struct {
		what string
		x    api.Image
		e    api.Errno
	}{
		{"nothing", api.Image{}, api.ErrImage},
		{"an empty text", api.Image{Text: []uint32{}, Memory: []int64{1}}, api.ErrImage},
		{"no text, all else wrong", api.Image{Entry: -1, Memory: memory}, api.ErrImage},
		{"too long a text", text(halts(16385)...), api.ErrLarge},
		{"too long a text, a large memory", api.Image{Text: halts(16385), Memory: memory}, api.ErrLarge},
		{"too large a memory", api.Image{Text: halts(1), Memory: memory}, api.ErrData},
		{"too large a memory, an Entry behind", api.Image{Text: halts(1), Entry: 1, Memory: memory}, api.ErrData},
		{"an Entry below", entered(-1, out(1), halt), api.ErrEntry},
		{"an Entry at the end", entered(2, out(1), halt), api.ErrEntry},
		{"an Entry far behind", entered(math.MaxInt, out(1), goTo(1)), api.ErrEntry},
		{"an Entry far below", entered(math.MinInt, goTo(1), jump(9)), api.ErrEntry},
		{"a jump behind", text(jump(2), halt), api.ErrPlace},
		{"a zero behind", text(zero(1, 2), halt), api.ErrPlace},
		{"a call behind", text(call(2), halt), api.ErrPlace},
		{"a place behind", text(place(1, 16383), goTo(1)), api.ErrPlace},
		{"a place behind, and no end", text(place(1, 2), out(1)), api.ErrPlace},
		{"an out at the end", text(call(1), out(1)), api.ErrImage},
		{"a call at the end", text(goTo(15), call(0)), api.ErrImage},
		{"a calls at the end", text(goTo(15), calls(1)), api.ErrImage},
		{"a zero at the end", text(halt, zero(1, 0)), api.ErrImage},
		{"a place at the end", text(halt, place(1, 0)), api.ErrImage},
		{"no instruction at the end", text(out(1), 1), api.ErrImage},
	} {
		if i, o, e := live.Blocks(c.x); e != c.e || len(i) != 0 || len(o) != 0 {
			t.Errorf("P14.1: %s: Blocks tells %d and %d sets, %d; not none, %d", c.what, len(i), len(o), e, c.e)
		}
		if l, e := live.Behind(c.x); e != c.e || len(l) != 0 {
			t.Errorf("P14.2: %s: Behind tells %d sets, %d; not none, %d", c.what, len(l), e, c.e)
		}
	}
}

func TestOneBlock(t *testing.T) {
	for name, w := range map[string]uint32{"trap": trap, "halt": halt, "jump": jump(0)} {
		behind(t, name+" alone", text(w), 0)
		blocks(t, name+" alone", text(w), row(0), row(0))
	}
	behind(t, "go alone", text(goTo(3)), 0)
	blocks(t, "go alone: no place can be gone to", text(goTo(3)), row(of(3)), row(0))
	x := text(out(4), set(4, 1), store(4, 5, 0), add(5, 6, 7), halt)
	behind(t, "a row and a halt", x, of(5, 6, 7), of(4, 5, 6, 7), of(6, 7), 0, 0)
	blocks(t, "a row and a halt", x, row(of(4, 5, 6, 7)), row(0))
	x = text(out(4), set(4, 1), store(4, 5, 0), add(5, 6, 7), jump(0))
	behind(t, "a row that goes round", x, of(5, 6, 7), of(4, 5, 6, 7), of(4, 6, 7), of(4, 5, 6, 7), of(4, 5, 6, 7))
	blocks(t, "a row that goes round", x, row(of(4, 5, 6, 7)), row(of(4, 5, 6, 7)))
	x = text(place(1, 0), set(2, 1), out(3), goTo(1))
	behind(t, "a row that leaps to itself", x, of(1, 3), of(1, 3), of(1, 3), of(3))
	blocks(t, "a row that leaps to itself", x, row(of(3)), row(of(3)))
}

// TestReadsOfEachOp has each op behind a set of each register that it could read, by itself.
func TestReadsOfEachOp(t *testing.T) {
	for _, c := range []struct {
		name          string
		w             uint32
		reads, writes uint16
	}{
		{"set", set(1, 2), 0, of(1)}, {"move", move(1, 2), of(2), of(1)}, {"add", add(1, 2, 3), of(2, 3), of(1)}, {"sub", ins(4, 1, 2, 3, 0), of(2, 3), of(1)},
		{"mul", ins(5, 1, 2, 3, 0), of(2, 3), of(1)}, {"and", ins(6, 1, 2, 3, 0), of(2, 3), of(1)}, {"or", ins(7, 1, 2, 3, 0), of(2, 3), of(1)},
		{"xor", ins(8, 1, 2, 3, 0), of(2, 3), of(1)}, {"less", ins(9, 1, 2, 3, 0), of(2, 3), of(1)}, {"same", ins(10, 1, 2, 3, 0), of(2, 3), of(1)},
		{"load", load(1, 2, 3), of(2), of(1)}, {"store", store(1, 2, 3), of(1, 2), 0}, {"in", in(1), 0, of(1)}, {"out", out(1), of(1), 0},
		{"place", place(1, 0), 0, of(1)}, {"move 15", move(15, 14), of(14), link}, {"store 15", store(0, 15, 0), of(0, 15), 0},
		{"load 15 15", load(15, 15, 0), link, link}, {"set 0", set(0, 0), 0, of(0)},
	} {
		want := c.reads | of(1, 4, 15)&^c.writes
		x := text(set(9, 1), c.w, store(1, 4, 0), store(15, 15, 0), halt)
		behind(t, c.name, x, want, of(1, 4, 15), link, 0, 0)
		x = text(jump(1), c.w, store(1, 4, 0), store(15, 15, 0), halt)
		behind(t, c.name+" behind a jump", x, want, of(1, 4, 15), link, 0, 0)
		blocks(t, c.name+" behind a jump", x, row(want, want), row(want, 0))
	}
	for _, c := range []struct {
		name      string
		w         uint32
		in, after uint16 // with a block ahead of it and one behind it, which reads 5 and 15
	}{
		{"trap", trap, 0, 0}, {"halt", halt, 0, 0}, {"no instruction", 1, 0, 0}, {"an add with an n", add(1, 2, 3) | 1, 0, 0}, {"all bits", math.MaxUint32, 0, 0},
		{"jump", jump(2), of(5, 15), of(5, 15)}, {"zero", zero(6, 2), of(5, 6, 15), of(5, 15)}, {"call", call(2), of(5), of(5, 15)},
		{"calls", calls(6), of(5, 6), of(5, 15)}, {"calls 15", calls(15), of(5, 15), of(5, 15)}, {"go", goTo(6), of(6), 0}, {"go 15", goTo(15), link, 0},
		{"go 0", goTo(0), of(0), 0}, {"zero 15", zero(15, 2), of(5, 15), of(5, 15)}, {"jump to itself", jump(1), 0, 0}, {"zero to itself", zero(6, 1), of(5, 6, 15), of(5, 6, 15)},
		{"call to itself", call(1), 0, 0},
	} {
		x := entered(1, set(9, 1), c.w, store(5, 15, 0), halt)
		behind(t, c.name, x, c.in, c.after, 0, 0)
		blocks(t, c.name, x, row(c.in, c.in, of(5, 15)), row(c.in, c.after, 0))
	}
}

// TestWhatIsReadAndWritten has words that read what they write, in blocks of their own and within one.
func TestWhatIsReadAndWritten(t *testing.T) {
	for r := range uint32(16) {
		behind(t, "add r r r", text(set(r, 1), add(r, r, r), halt), of(r), 0, 0)
		behind(t, "add r r r, read behind", text(set(r, 1), add(r, r, r), out(r), halt), of(r), of(r), 0, 0)
		behind(t, "move r r, which goes round", text(move(r, r), jump(0)), of(r), of(r))
		behind(t, "load r r, behind a jump", text(jump(2), halt, load(r, r, 0), set(r, 1), halt), of(r), 0, 0, 0, 0)
		behind(t, "written ahead of being read and written", text(jump(2), halt, in(r), add(r, r, r), halt), 0, 0, of(r), 0, 0)
	}
	behind(t, "calls 15, which reads the link register and writes it", text(set(9, 1), calls(15), goTo(15)), link, link, link)
	behind(t, "each moved to the next one", text(move(1, 2), move(2, 3), move(3, 1), jump(0)), of(1, 3), of(1, 2), of(2, 3), of(2, 3))
}
