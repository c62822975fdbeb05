package class_test

import (
	"math"
	"slices"
	"testing"

	"pleat/api"
	"pleat/class"
)

const (
	trap = 0
	halt = 21 << 27
)

// ins tells a word by the bits that chapter 2 says.
func ins(op, d, a, b uint32, n int) uint32 {
	return op<<27 | d<<23 | a<<19 | b<<15 | uint32(n)&0x7fff
}

func set(d uint32, n int) uint32      { return ins(1, d, 0, 0, n) }
func move(d, a uint32) uint32         { return ins(2, d, a, 0, 0) }
func add(d, a, b uint32) uint32       { return ins(3, d, a, b, 0) }
func load(d, a uint32, n int) uint32  { return ins(11, d, a, 0, n) }
func store(a, b uint32, n int) uint32 { return ins(12, 0, a, b, n) }
func in(d uint32) uint32              { return ins(13, d, 0, 0, 0) }
func out(a uint32, n int) uint32      { return ins(14, 0, a, 0, n) }
func jump(n int) uint32               { return ins(15, 0, 0, 0, n) }
func zero(a uint32, n int) uint32     { return ins(16, 0, a, 0, n) }
func call(n int) uint32               { return ins(17, 0, 0, 0, n) }
func calls(a uint32) uint32           { return ins(18, 0, a, 0, 0) }
func goTo(a uint32) uint32            { return ins(19, 0, a, 0, 0) }
func place(d uint32, n int) uint32    { return ins(20, d, 0, 0, n) }

func row(words ...uint32) []uint32 { return words }

func text(words ...uint32) api.Image { return api.Image{Text: words} }

func entered(at int, words ...uint32) api.Image { return api.Image{Text: words, Entry: at} }

func stands(length int, at ...int) api.Repeat { return api.Repeat{Len: length, At: at} }

func tail(at int) api.Spot  { return api.Spot{At: at, Class: api.Tail} }
func thunk(at int) api.Spot { return api.Spot{At: at, Class: api.Thunk} }
func dead(at int) api.Spot  { return api.Spot{At: at, Class: api.Dead} }

func spare(at int, reg uint32) api.Spot {
	return api.Spot{At: at, Class: api.Spare, Reg: int8(reg)}
}

func kind(t *testing.T, what string, want int8, words ...uint32) {
	t.Helper()
	if got := class.Kind(words); got != want {
		t.Fatalf("P19.1: %s: Kind of %#x is %d, not %d", what, words, got, want)
	}
}

// is holds that there is such a spot at its place.
func is(t *testing.T, what string, x api.Image, n int, want api.Spot) {
	t.Helper()
	if got, yes, e := class.Spot(x, n, want.At); got != want || !yes || e != api.OK {
		t.Fatalf("P19.2: %s: Spot of %#x, Entry %d, and %d, %d is %v, %t, %d; not %v", what, x.Text[:min(len(x.Text), 40)], x.Entry, n, want.At, got, yes, e, want)
	}
}

// none holds that there is no spot, and that this is no error.
func none(t *testing.T, what string, x api.Image, n, at int) {
	t.Helper()
	noSpot(t, what, x, n, at, api.OK)
}

// noSpot holds that Spot tells nothing but that error.
func noSpot(t *testing.T, what string, x api.Image, n, at int, want api.Errno) {
	t.Helper()
	if got, yes, e := class.Spot(x, n, at); got != (api.Spot{}) || yes || e != want {
		t.Fatalf("P19.2, R2: %s: Spot of %#x, Entry %d, and %d, %d is %v, %t, %d; not none, %d", what, x.Text[:min(len(x.Text), 40)], x.Entry, n, at, got, yes, e, want)
	}
}

// are holds that these are the spots among the places of r.
func are(t *testing.T, what string, x api.Image, r api.Repeat, want ...api.Spot) {
	t.Helper()
	if got, e := class.Spots(x, r); e != api.OK || !slices.Equal(got, want) {
		t.Fatalf("P19.3: %s: Spots of %#x, Entry %d, and %v is %v, %d; not %v", what, x.Text[:min(len(x.Text), 40)], x.Entry, r, got, e, want)
	}
}

// noSpots holds that Spots tells nothing but that error.
func noSpots(t *testing.T, what string, x api.Image, r api.Repeat, want api.Errno) {
	t.Helper()
	if got, e := class.Spots(x, r); e != want || len(got) != 0 {
		t.Fatalf("P19.3, R2: %s: Spots of %#x, Entry %d, and %v is %v, %d; not none, %d", what, x.Text[:min(len(x.Text), 40)], x.Entry, r, got, e, want)
	}
}

func TestExamples(t *testing.T) {
	x := text(set(1, 5), out(1, 0), halt)
	is(t, "a row and a halt", x, 3, tail(0))
	is(t, "a row", x, 2, dead(0))
	is(t, "the row's end", x, 2, tail(1))
	noSpot(t, "one word", x, 1, 0, api.ErrArg)
	x = text(out(1, 0), call(2), halt)
	is(t, "a call at its end", x, 2, thunk(0))
	none(t, "a call at its beginning", x, 2, 1)
	x = text(call(2), halt, set(1, 1), set(2, 2), out(1, 0), out(2, 0), goTo(15))
	is(t, "four words", x, 4, spare(2, 0))
	none(t, "three words", x, 3, 2)
	none(t, "two words", x, 2, 4)
	is(t, "all of the function", x, 5, tail(2))
	none(t, "a zero", text(out(1, 0), zero(1, 0), halt), 2, 0)
}

// TestExamplesOfTheWhole are the fifth and the seventh to the ninth one of the document.
func TestExamplesOfTheWhole(t *testing.T) {
	x := text(set(1, 5), add(1, 1, 1), out(1, 0), out(1, 1), set(1, 5), add(1, 1, 1), out(1, 0), out(1, 1), halt)
	are(t, "twice four", x, stands(4, 0, 4), dead(0), dead(4))
	x = entered(3, set(1, 5), out(1, 0), halt, zero(2, 0), set(1, 5), out(1, 0), halt)
	are(t, "to the halt", x, stands(3, 0, 4), tail(0), tail(4))
	x = entered(2, set(1, 5), goTo(15), set(2, 1), call(0), set(2, 1), call(0), halt)
	are(t, "to the call", x, stands(2, 2, 4), thunk(2), thunk(4))
	x = text(call(2), halt, in(1), out(1, 0), in(1), out(1, 1), in(1), out(1, 0), in(1), out(1, 1), goTo(15))
	are(t, "the link register is read", x, stands(4, 2, 6), spare(2, 0), spare(6, 0))
	are(t, "there is no room for it", x, stands(2, 2, 6))
	for _, w := range row(zero(1, 0), 1, move(1, 15), set(15, 0)) {
		x = text(out(1, 0), out(2, 0), w, out(1, 0), out(2, 0), w, halt)
		noSpots(t, "alone", x, stands(3, 0, 3), api.ErrFold)
		are(t, "alone, at one place", x, stands(3, 0))
	}
	are(t, "across a label", text(out(1, 0), out(1, 0), out(1, 0), out(1, 0), jump(3)), stands(2, 0, 1, 2), dead(0), dead(1))
}

// halts tells a text of that many words, each of which is a block.
func halts(size int) []uint32 { return slices.Repeat(row(halt), size) }

func TestImagesThatMayNotBe(t *testing.T) {
	memory := make([]int64, 4097)
	for _, c := range []struct {
		what string
		x    api.Image
		e    api.Errno
	}{
		{"nothing", api.Image{}, api.ErrImage},
		{"an empty text", api.Image{Text: []uint32{}, Memory: []int64{1}}, api.ErrImage},
		{"no text, all else wrong", api.Image{Entry: -1, Memory: memory}, api.ErrImage},
		{"too long a text", text(halts(16385)...), api.ErrLarge},
		{"too long a text, a large memory", api.Image{Text: halts(16385), Memory: memory}, api.ErrLarge},
		{"too large a memory", api.Image{Text: halts(2), Memory: memory}, api.ErrData},
		{"too large a memory, an Entry behind", api.Image{Text: halts(2), Entry: 2, Memory: memory}, api.ErrData},
		{"an Entry below", entered(-1, out(1, 0), halt), api.ErrEntry},
		{"an Entry at the end", entered(2, out(1, 0), halt), api.ErrEntry},
		{"an Entry far behind", entered(math.MaxInt, out(1, 0), goTo(1)), api.ErrEntry},
		{"an Entry far below", entered(math.MinInt, goTo(1), jump(9)), api.ErrEntry},
		{"a jump behind", text(out(1, 0), jump(2), halt, jump(4)), api.ErrPlace},
		{"a zero behind", text(zero(1, 2), halt), api.ErrPlace},
		{"a call behind", text(out(1, 0), call(3), halt), api.ErrPlace},
		{"a place behind", text(place(1, 16383), goTo(1)), api.ErrPlace},
		{"a place behind, and no end", text(place(1, 2), out(1, 0)), api.ErrPlace},
		{"an out at the end", text(call(1), out(1, 0)), api.ErrImage},
		{"a call at the end", text(out(1, 0), call(0)), api.ErrImage},
		{"a calls at the end", text(out(1, 0), calls(1)), api.ErrImage},
		{"a zero at the end", text(halt, zero(1, 0)), api.ErrImage},
		{"a place at the end", text(halt, place(1, 0)), api.ErrImage},
		{"no instruction at the end", text(out(1, 0), 1), api.ErrImage},
	} {
		size := len(c.x.Text)
		for _, n := range []int{2, 1, 0, -1, size, size + 1, math.MaxInt, math.MinInt} {
			for _, at := range []int{0, size - 2, size, -1, math.MaxInt, math.MinInt} {
				noSpot(t, c.what, c.x, n, at, c.e)
				noSpots(t, c.what, c.x, stands(n, at), c.e)
				noSpots(t, c.what, c.x, stands(n, 0, at), c.e)
			}
			noSpots(t, c.what, c.x, stands(n), c.e)
			noSpots(t, c.what, c.x, stands(n, 1, 0), c.e)
		}
	}
}
