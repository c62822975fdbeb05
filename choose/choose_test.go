package choose_test

import (
	"fmt"
	"math"
	"slices"
	"testing"

	"pleat/api"
	"pleat/choose"
)

const (
	most = 16384 // words of a text
	trap = 0
	halt = 21 << 27
)

// ins tells a word by the bits that chapter 2 says.
func ins(op, d, a, b uint32, n int) uint32 {
	return op<<27 | d<<23 | a<<19 | b<<15 | uint32(n)&0x7fff
}

func set(d uint32, n int) uint32   { return ins(1, d, 0, 0, n) }
func move(d, a uint32) uint32      { return ins(2, d, a, 0, 0) }
func add(d, a, b uint32) uint32    { return ins(3, d, a, b, 0) }
func store(a, b uint32) uint32     { return ins(12, 0, a, b, 0) }
func in(d uint32) uint32           { return ins(13, d, 0, 0, 0) }
func out(a uint32, n int) uint32   { return ins(14, 0, a, 0, n) }
func jump(n int) uint32            { return ins(15, 0, 0, 0, n) }
func zero(a uint32, n int) uint32  { return ins(16, 0, a, 0, n) }
func call(n int) uint32            { return ins(17, 0, 0, 0, n) }
func calls(a uint32) uint32        { return ins(18, 0, a, 0, 0) }
func goTo(a uint32) uint32         { return ins(19, 0, a, 0, 0) }
func place(d uint32, n int) uint32 { return ins(20, d, 0, 0, n) }
func row(words ...uint32) []uint32 { return words }
func join(l ...[]uint32) []uint32  { return slices.Concat(l...) }
func text(l ...[]uint32) api.Image { return api.Image{Text: join(l...)} }
func outs(from, size int) []uint32 { return ports(1, from, size) }
func end() []uint32                { return row(halt) }
func stands(n int, at ...int) api.Repeat {
	return api.Repeat{Len: n, At: at}
}

// ports tells a row of words, each to a port of its own.
func ports(register uint32, from, size int) []uint32 {
	var words []uint32
	for n := range size {
		words = append(words, out(register, from+n))
	}
	return words
}

func tail(at int) api.Spot  { return api.Spot{At: at, Class: api.Tail} }
func thunk(at int) api.Spot { return api.Spot{At: at, Class: api.Thunk} }
func dead(at int) api.Spot  { return api.Spot{At: at, Class: api.Dead} }
func spare(at int, register int8) api.Spot {
	return api.Spot{At: at, Class: api.Spare, Reg: register}
}

func fold(n, gain int, spots ...api.Spot) api.Fold {
	return api.Fold{Len: n, Spots: spots, Gain: gain}
}

func alike(a, b api.Fold) bool {
	return a.Len == b.Len && a.Gain == b.Gain && slices.Equal(a.Spots, b.Spots)
}

// shown tells the beginning of a list.
func shown[T any](l []T) []T { return l[:min(len(l), 60)] }

// brief tells a fold by the beginning of its spots.
func brief(f api.Fold) string {
	return fmt.Sprintf("Len %d, Gain %d, %d spots %v", f.Len, f.Gain, len(f.Spots), shown(f.Spots))
}

// folds holds what Fold tells of a sequence.
func folds(t *testing.T, what string, x api.Image, r api.Repeat, want api.Fold) {
	t.Helper()
	if got, e := choose.Fold(x, r); e != api.OK || !alike(got, want) {
		t.Fatalf("P22.1: %s: Fold of %#x, Entry %d, and %d at %v is %s, %d; not %s", what, shown(x.Text), x.Entry, r.Len, shown(r.At), brief(got), e, brief(want))
	}
}

// refuses holds that Fold tells nothing but that error.
func refuses(t *testing.T, what string, x api.Image, r api.Repeat, want api.Errno) {
	t.Helper()
	if got, e := choose.Fold(x, r); e != want || !alike(got, api.Fold{}) {
		t.Fatalf("P22.1, R2: %s: Fold of %#x, Entry %d, and %d at %v is %s, %d; not none, %d", what, shown(x.Text), x.Entry, r.Len, shown(r.At), brief(got), e, want)
	}
}

// best holds what Best tells of an image of which a fold pays.
func best(t *testing.T, what string, x api.Image, want api.Fold) {
	t.Helper()
	if got, is, e := choose.Best(x); e != api.OK || !is || !alike(got, want) {
		t.Fatalf("P22.3: %s: Best of %#x, Entry %d, is %s, %t, %d; not %s", what, shown(x.Text), x.Entry, brief(got), is, e, brief(want))
	}
}

// noBest holds that Best tells nothing but that error; or nothing at all, if nothing pays.
func noBest(t *testing.T, what string, x api.Image, want api.Errno) {
	t.Helper()
	if got, is, e := choose.Best(x); e != want || is || !alike(got, api.Fold{}) {
		t.Fatalf("P22.3, R2: %s: Best of %#x, Entry %d, is %s, %t, %d; not none, %d", what, shown(x.Text), x.Entry, brief(got), is, e, want)
	}
}

// twiceFour is the fifth example of the whole.
func twiceFour() api.Image {
	four := row(set(1, 5), add(1, 1, 1), out(1, 0), out(1, 1))
	return text(four, four, end())
}

func TestExamples(t *testing.T) {
	best(t, "twice four", twiceFour(), fold(4, 1, dead(0), dead(4)))
	noBest(t, "twice two", text(row(set(1, 5), out(1, 0), set(1, 5), out(1, 0), halt)), api.OK)
	x := text(row(zero(2, 4), set(1, 5), out(1, 0), halt, set(1, 5), out(1, 0), halt))
	best(t, "twice to a halt", x, fold(3, 1, tail(1), tail(4)))
	folds(t, "twice four", twiceFour(), stands(4, 0, 4), fold(4, 1, dead(0), dead(4)))
	folds(t, "twice three of the four", twiceFour(), stands(3, 1, 5), fold(3, 0, dead(1), dead(5)))
	folds(t, "one of the four", twiceFour(), stands(4, 4), fold(4, -2, dead(4)))
	folds(t, "twice to a halt", x, stands(3, 1, 4), fold(3, 1, tail(1), tail(4)))
	folds(t, "twice to a halt, the last two", x, stands(2, 2, 5), fold(2, 0, tail(2), tail(5)))
}

// TestExamplesOfTheWhole are the sixth to the ninth one of the document.
func TestExamplesOfTheWhole(t *testing.T) {
	folded := text(row(call(3), call(3), halt, set(1, 5), add(1, 1, 1), out(1, 0), out(1, 1), goTo(15)))
	noBest(t, "folded once", folded, api.OK)
	calling := api.Image{Text: row(out(1, 0), goTo(15), set(1, 5), out(1, 2), call(0), set(1, 5), out(1, 2), call(0), halt), Entry: 2}
	best(t, "twice to a call", calling, fold(3, 1, thunk(2), thunk(5)))
	function := text(row(call(2), halt), ports(3, 0, 8), row(set(4, 1)), ports(3, 0, 8), row(goTo(15)))
	best(t, "kept in another register", function, fold(8, 1, spare(2, 0), spare(11, 0)))
	allRead := text(row(call(2), halt), ports(3, 0, 8), row(set(3, 1)), ports(3, 0, 8), readsAll(), row(goTo(15)))
	noBest(t, "no register to keep it in", allRead, api.OK)
	folds(t, "no register to keep it in", allRead, stands(8, 2, 11), api.Fold{})
	for _, alone := range row(zero(1, 0), 1, move(1, 15)) {
		three := row(out(1, 0), alone, out(1, 1))
		noBest(t, "alone", text(three, three, three, end()), api.OK)
	}
	noBest(t, "a label in the one", api.Image{Text: join(outs(0, 4), outs(0, 4), end()), Entry: 6}, api.OK)
}

// readsAll reads each register but the link register.
func readsAll() []uint32 {
	var words []uint32
	for r := range uint32(15) {
		words = append(words, out(r, 0))
	}
	return words
}

// halts tells a text of that many words, each of which is a block.
func halts(size int) []uint32 { return slices.Repeat(row(halt), size) }

func TestImagesThatMayNotBe(t *testing.T) {
	memory := make([]int64, 4097)
	pays := join(outs(0, 9), outs(0, 9))
	for _, c := range []struct {
		what string
		x    api.Image
		e    api.Errno
	}{
		{"nothing", api.Image{}, api.ErrImage},
		{"an empty text", api.Image{Text: []uint32{}, Memory: []int64{1}}, api.ErrImage},
		{"no text, all else wrong", api.Image{Entry: -1, Memory: memory}, api.ErrImage},
		{"too long a text", text(halts(most + 1)), api.ErrLarge},
		{"too long a text, a large memory", api.Image{Text: halts(most + 1), Memory: memory}, api.ErrLarge},
		{"too large a memory", api.Image{Text: join(pays, end()), Memory: memory}, api.ErrData},
		{"too large a memory, an Entry behind", api.Image{Text: halts(2), Entry: 2, Memory: memory}, api.ErrData},
		{"an Entry below", api.Image{Text: join(pays, end()), Entry: -1}, api.ErrEntry},
		{"an Entry at the end", api.Image{Text: join(pays, end()), Entry: 19}, api.ErrEntry},
		{"an Entry far behind", api.Image{Text: join(pays, end()), Entry: math.MaxInt}, api.ErrEntry},
		{"an Entry far below", api.Image{Text: row(goTo(1), jump(9)), Entry: math.MinInt}, api.ErrEntry},
		{"a jump behind", text(pays, row(jump(19))), api.ErrPlace},
		{"a zero behind", text(pays, row(zero(1, 20), halt)), api.ErrPlace},
		{"a call behind", text(row(call(20)), pays, end()), api.ErrPlace},
		{"a place behind, and no end", text(row(place(1, 16383)), pays), api.ErrPlace},
		{"no end", text(pays), api.ErrImage},
		{"a call at the end", text(pays, row(call(0))), api.ErrImage},
		{"a zero at the end", text(pays, row(zero(1, 0))), api.ErrImage},
		{"no instruction at the end", text(pays, row(1)), api.ErrImage},
	} {
		noBest(t, c.what, c.x, c.e)
		for _, r := range wrongSequences(len(c.x.Text)) {
			refuses(t, c.what, c.x, r, c.e)
		}
		refuses(t, c.what, c.x, stands(9, 0, 9), c.e)
		refuses(t, c.what, c.x, stands(2, 0), c.e)
	}
}

// wrongSequences are such as no text of that size has.
func wrongSequences(size int) []api.Repeat {
	l := []api.Repeat{
		{}, stands(0), stands(2), stands(4, []int{}...), stands(math.MinInt), stands(math.MaxInt),
		stands(2, 4, 0), stands(2, 0, 0), stands(4, 0, 4, 4), stands(4, 4, 0, 4), stands(4, 0, 4, 0),
		stands(2, 0, size), stands(2, 0, size-1), stands(4, 0, size-3), stands(2, -1), stands(2, -1, 0), stands(2, math.MinInt, 0), stands(2, 0, math.MaxInt), stands(2, math.MaxInt), stands(4, 0, math.MaxInt-3),
		stands(size+1, 0), stands(size+1, -1), stands(size, 1),
	}
	for _, n := range []int{1, 0, -1, -4, math.MinInt, math.MinInt + 1, math.MaxInt, math.MaxInt - 1, most + 1, 1 << 32, 1<<32 + 4} {
		l = append(l, stands(n, 0, 4), stands(n, 0), stands(n, 4), stands(n, math.MaxInt), stands(n, math.MinInt))
	}
	return l
}

func TestSequencesThatAreNone(t *testing.T) {
	for _, x := range []api.Image{twiceFour(), text(outs(0, 4), outs(0, 4), outs(0, 4), end())} {
		for _, r := range wrongSequences(len(x.Text)) {
			refuses(t, "no sequence", x, r, api.ErrFold)
		}
		refuses(t, "unlike words", x, stands(4, 0, 1), api.ErrFold)
		refuses(t, "unlike last words", x, stands(5, 0, len(x.Text)-5), api.ErrFold)
		refuses(t, "one of three unlike", x, stands(2, 0, 4, 5), api.ErrFold)
	}
	for _, alone := range row(zero(1, 0), 1, move(1, 15), set(15, 0), calls(15)) {
		three := row(out(1, 0), out(1, 1), alone)
		refuses(t, "alone", text(three, three, end()), stands(3, 0, 3), api.ErrFold)
		folds(t, "alone, at one place", text(three, three, end()), stands(3, 3), api.Fold{})
	}
	folds(t, "ahead of what is alone", text(outs(0, 2), row(zero(1, 0)), outs(0, 2), end()), stands(2, 0, 3), fold(2, -1, dead(0), dead(3)))
}
