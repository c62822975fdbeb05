package image_test

import (
	"bytes"
	"fmt"
	"math"
	"math/rand"
	"reflect"
	"slices"
	"testing"

	"pleat/api"
	"pleat/image"
)

// Words are made by sums here, so that the tests know nothing of how package isa makes them.
func ins(op, d, a, b, n int) uint32 {
	return uint32(op*134217728 + d*8388608 + a*524288 + b*32768 + (n+32768)%32768)
}

func set(d, n int) uint32   { return ins(1, d, 0, 0, n) }
func jump(n int) uint32     { return ins(15, 0, 0, 0, n) }
func zero(a, n int) uint32  { return ins(16, 0, a, 0, n) }
func call(n int) uint32     { return ins(17, 0, 0, 0, n) }
func calls(a int) uint32    { return ins(18, 0, a, 0, 0) }
func goTo(a int) uint32     { return ins(19, 0, a, 0, 0) }
func place(d, n int) uint32 { return ins(20, d, 0, 0, n) }

const (
	trap = uint32(0)
	halt = uint32(0xA8000000)
)

func text(words ...uint32) api.Image { return api.Image{Text: words} }

// sample tells an image that may be: each op with a place, a word that is no instruction, a memory of all kinds of numbers.
func sample() api.Image {
	return api.Image{
		Text:   []uint32{0x01020304, call(8), zero(2, 0), place(3, 8), set(1, -1), 0xFFFFFFFF, jump(6), calls(3), goTo(15)},
		Entry:  3,
		Memory: []int64{-1, 1 << 40, math.MinInt64, math.MaxInt64, 0, 0x0102030405060708, -2},
	}
}

func same(a, b api.Image) bool {
	return a.Entry == b.Entry && slices.Equal(a.Text, b.Text) && slices.Equal(a.Memory, b.Memory)
}

func checks(t *testing.T, what string, x api.Image, e api.Errno, number int) {
	t.Helper()
	if gotE, got := image.Check(x); gotE != e || got != number {
		t.Errorf("P7.1: %s: Check is %d, %d; not %d, %d", what, gotE, got, e, number)
	}
}

func TestCheckExamples(t *testing.T) {
	checks(t, "halt", text(halt), api.OK, 0)
	checks(t, "no text", api.Image{}, api.ErrImage, 0)
	checks(t, "halt, Entry 1", api.Image{Text: []uint32{halt}, Entry: 1}, api.ErrEntry, 0)
	checks(t, "set 1 5", text(0x08800005), api.ErrImage, 0)
	checks(t, "call 0", text(0x88000000), api.ErrImage, 0)
	checks(t, "halt; jump 2", text(halt, 0x78000002), api.ErrPlace, 1)
	checks(t, "jump 1; trap", text(0x78000001, 0), api.OK, 0)
	checks(t, "a memory of 4097", api.Image{Text: []uint32{halt}, Memory: make([]int64, 4097)}, api.ErrData, 4096)
}

func TestCheckSizes(t *testing.T) {
	checks(t, "R4: an empty text", api.Image{Text: []uint32{}, Memory: []int64{}}, api.ErrImage, 0)
	checks(t, "R4: an empty memory", api.Image{Text: []uint32{halt}, Memory: []int64{}}, api.OK, 0)
	for _, size := range []int{1, 2, 16383, 16384} {
		checks(t, fmt.Sprint(size, " traps"), text(make([]uint32, size)...), api.OK, 0)
		checks(t, fmt.Sprint("a text of ", size, " that aims at its end"), text(slices.Repeat([]uint32{jump(size - 1)}, size)...), api.OK, 0)
	}
	for _, size := range []int{16385, 16386, 32768, 65537} {
		checks(t, fmt.Sprint(size, " traps"), text(make([]uint32, size)...), api.ErrLarge, 16384)
	}
	for _, size := range []int{1, 4095, 4096} {
		checks(t, fmt.Sprint("a memory of ", size), api.Image{Text: []uint32{halt}, Memory: make([]int64, size)}, api.OK, 0)
	}
	for _, size := range []int{4097, 4098, 8192, 16384} {
		checks(t, fmt.Sprint("a memory of ", size), api.Image{Text: []uint32{halt}, Memory: make([]int64, size)}, api.ErrData, 4096)
	}
}

func TestCheckEntry(t *testing.T) {
	for _, size := range []int{1, 2, 9, 16384} {
		x := text(make([]uint32, size)...)
		for _, entry := range []int{0, size / 2, size - 1} {
			x.Entry = entry
			checks(t, fmt.Sprintf("Entry %d of %d", entry, size), x, api.OK, 0)
		}
		for _, entry := range []int{-1, -2, size, size + 1, 1 << 16, 1 << 32, -1 << 32, math.MinInt, math.MaxInt} {
			x.Entry = entry
			checks(t, fmt.Sprintf("Entry %d of %d", entry, size), x, api.ErrEntry, 0)
		}
	}
}

// aimed tells a word of each op that has a place, with that place.
func aimed(n int) map[string]uint32 {
	return map[string]uint32{"jump": jump(n), "zero": zero(15, n), "call": call(n), "place": place(15, n)}
}

func TestCheckPlaces(t *testing.T) {
	const size = 7
	for at := range size {
		for n := range size {
			for op, w := range aimed(n) {
				x := text(make([]uint32, size)...)
				x.Text[at] = w
				want, number := api.OK, 0
				if at == size-1 && op != "jump" {
					want, number = api.ErrImage, at
				}
				checks(t, fmt.Sprintf("%s %d at %d of %d", op, n, at, size), x, want, number)
			}
		}
		for _, n := range []int{size, size + 1, 16382, 16383} {
			for op, w := range aimed(n) {
				x := text(make([]uint32, size)...)
				x.Text[at] = w
				checks(t, fmt.Sprintf("%s %d at %d of %d", op, n, at, size), x, api.ErrPlace, at)
			}
		}
	}
	full := text(make([]uint32, 16384)...)
	full.Text[5] = place(0, 16383)
	checks(t, "the last place of MaxText", full, api.OK, 0)
	full.Text = full.Text[:16383]
	checks(t, "the place behind MaxText - 1", full, api.ErrPlace, 5)
}

func TestCheckFirstPlaceOfTwo(t *testing.T) {
	for left := range 5 {
		for right := left + 1; right < 6; right++ {
			for one, w := range aimed(6) {
				for other, v := range aimed(9) {
					x := text(make([]uint32, 6)...)
					x.Text[left], x.Text[right] = w, v
					checks(t, fmt.Sprintf("%s at %d and %s at %d", one, left, other, right), x, api.ErrPlace, left)
				}
			}
		}
	}
}

// lookalikes are words that are no instructions, but are ones with a place that is beyond the text, with one bit more.
func lookalikes() []uint32 {
	return []uint32{
		jump(9) + 1<<14, jump(9) + 1<<15, jump(9) + 1<<19, jump(9) + 1<<23,
		zero(3, 9) + 1<<14, zero(3, 9) + 1<<15, zero(3, 9) + 1<<23,
		call(9) + 1<<14, call(9) + 1<<18, call(9) + 1<<22, call(9) + 1<<26,
		place(3, 9) + 1<<14, place(3, 9) + 1<<15, place(3, 9) + 1<<19,
		ins(22, 0, 0, 0, 9), ins(31, 15, 15, 15, -1), 1,
	}
}

func TestCheckWordsThatAreNone(t *testing.T) {
	for _, w := range lookalikes() {
		checks(t, fmt.Sprintf("%#x, no instruction", w), text(w, halt), api.OK, 0)
		checks(t, fmt.Sprintf("%#x, no instruction, as the last", w), text(halt, w), api.ErrImage, 1)
		checks(t, fmt.Sprintf("%#x, no instruction, alone", w), text(w), api.ErrImage, 0)
	}
	for _, w := range []uint32{trap + 1, trap + 1<<23, goTo(15) + 1, goTo(15) + 1<<15, goTo(1) + 1<<23, halt + 1, halt + 1<<19, jump(0) + 1<<15} {
		checks(t, fmt.Sprintf("%#x, nearly one that may be the last", w), text(halt, w), api.ErrImage, 1)
	}
	// The N of these is no place.
	for _, w := range []uint32{set(1, 9), ins(11, 1, 2, 0, 9), ins(12, 0, 1, 2, 9), ins(14, 0, 1, 0, 9), set(1, -1)} {
		checks(t, fmt.Sprintf("%#x", w), text(w, halt), api.OK, 0)
	}
}

// eachOp tells a word of each op, with fields of its own.
func eachOp() [22]uint32 {
	return [22]uint32{
		trap, set(1, 2), ins(2, 1, 2, 0, 0), ins(3, 1, 2, 3, 0), ins(4, 1, 2, 3, 0), ins(5, 1, 2, 3, 0), ins(6, 1, 2, 3, 0), ins(7, 1, 2, 3, 0),
		ins(8, 1, 2, 3, 0), ins(9, 1, 2, 3, 0), ins(10, 1, 2, 3, 0), ins(11, 1, 2, 0, 3), ins(12, 0, 1, 2, 3), ins(13, 1, 0, 0, 0), ins(14, 0, 1, 0, 2),
		jump(1), zero(1, 1), call(1), calls(1), goTo(1), place(1, 1), halt,
	}
}

func TestCheckLastWord(t *testing.T) {
	for op, w := range eachOp() {
		e, number := api.ErrImage, 1
		if op == 0 || op == 15 || op == 19 || op == 21 {
			e, number = api.OK, 0
		}
		checks(t, fmt.Sprintf("the op %d as the last", op), text(halt, w), e, number)
		checks(t, fmt.Sprintf("the op %d as the first", op), text(w, halt), api.OK, 0)
	}
	for a := range 16 {
		checks(t, fmt.Sprint("go ", a), text(goTo(a)), api.OK, 0)
		checks(t, fmt.Sprint("calls ", a), text(calls(a)), api.ErrImage, 0)
	}
	full := text(make([]uint32, 16384)...)
	full.Text[16383] = set(1, 1)
	checks(t, "a set at the end of MaxText words", full, api.ErrImage, 16383)
}

// fault is one thing that is wrong, in the order in which they are told. (A text without a word can have nothing else wrong but the memory and Entry.)
type fault struct {
	what   string
	turn   func(x *api.Image)
	e      api.Errno
	number int
}

func faults() []fault {
	return []fault{
		{"a long text", func(x *api.Image) { x.Text = append(make([]uint32, 16385-len(x.Text)), x.Text...) }, api.ErrLarge, 16384},
		{"a large memory", func(x *api.Image) { x.Memory = make([]int64, 4097) }, api.ErrData, 4096},
		{"an Entry behind", func(x *api.Image) { x.Entry = 16386 }, api.ErrEntry, 0},
		{"a place behind", func(x *api.Image) { x.Text[1] = call(16383) }, api.ErrPlace, 1},
		{"no end", func(x *api.Image) { x.Text[len(x.Text)-1] = set(1, 1) }, api.ErrImage, 4},
	}
}

func TestCheckSeveralWrong(t *testing.T) {
	all := faults()
	for which := 1; which < 1<<len(all); which++ {
		x := text(make([]uint32, 5)...)
		what, first := "", -1
		// From the last on, as the long text is made of what there is.
		for k := len(all) - 1; k >= 0; k-- {
			if which>>k&1 == 1 {
				all[k].turn(&x)
				what, first = all[k].what+", "+what, k
			}
		}
		checks(t, what, x, all[first].e, all[first].number)
	}
	checks(t, "no text, a large memory", api.Image{Memory: make([]int64, 4097)}, api.ErrImage, 0)
	checks(t, "no text, an Entry below", api.Image{Entry: -1}, api.ErrImage, 0)
	checks(t, "the last word's place", text(halt, halt, call(3)), api.ErrPlace, 2)
}

// plainly reckons what Check is to answer.
func plainly(x api.Image) (api.Errno, int) {
	size := len(x.Text)
	if size == 0 {
		return api.ErrImage, 0
	}
	if size >= 16385 {
		return api.ErrLarge, 16384
	}
	if len(x.Memory) >= 4097 {
		return api.ErrData, 4096
	}
	if !(0 <= x.Entry && x.Entry <= size-1) {
		return api.ErrEntry, 0
	}
	for k, w := range x.Text {
		n := w % 32768
		isJump, isZero := w-n == 15<<27, w-n-w>>19%16<<19 == 16<<27
		isCall, isPlace := w-n == 17<<27, w-n-w>>23%16<<23 == 20<<27
		if n < 16384 && (isJump || isZero || isCall || isPlace) && int(n) >= size {
			return api.ErrPlace, k
		}
	}
	last := x.Text[size-1]
	isJump, isGo := last>>14 == 15<<13, last>>23 == 19<<4 && last<<13 == 0
	if last == 0 || last == 21<<27 || isJump || isGo {
		return api.OK, 0
	}
	return api.ErrImage, size - 1
}

func anyWord(r *rand.Rand, size int) uint32 {
	all := eachOp()
	switch r.Intn(8) {
	case 0, 1, 2:
		n := r.Intn(size + 1)
		if r.Intn(4) > 0 {
			n = r.Intn(size)
		}
		return []uint32{jump(n), zero(r.Intn(16), n), call(n), place(r.Intn(16), n)}[r.Intn(4)]
	case 3:
		return r.Uint32()
	case 4:
		return all[r.Intn(22)] ^ 1<<r.Intn(32)
	case 5:
		return []uint32{trap, halt, goTo(r.Intn(16))}[r.Intn(3)]
	}
	return []uint32{set(r.Intn(16), r.Intn(32768)-16384), ins(3+r.Intn(8), r.Intn(16), r.Intn(16), r.Intn(16), 0), calls(r.Intn(16))}[r.Intn(3)]
}

func anyImage(r *rand.Rand) api.Image {
	size := r.Intn(9)
	x := api.Image{Entry: r.Intn(size + 1)}
	if r.Intn(20) == 0 {
		x.Entry = int(r.Uint64())
	}
	for range size {
		x.Text = append(x.Text, anyWord(r, size))
	}
	for range r.Intn(6) {
		x.Memory = append(x.Memory, int64(r.Uint64())>>r.Intn(64))
	}
	return x
}

// fit turns any image into one that may be.
func fit(r *rand.Rand, x api.Image) api.Image {
	if len(x.Text) == 0 {
		x.Text = []uint32{trap}
	}
	size := len(x.Text)
	if e, _ := plainly(x); e == api.ErrEntry {
		x.Entry = r.Intn(size)
	}
	for {
		switch e, at := plainly(x); e {
		case api.OK:
			return x
		case api.ErrPlace, api.ErrImage:
			x.Text[at] = []uint32{trap, jump(r.Intn(size)), goTo(r.Intn(16)), halt}[r.Intn(4)]
		}
	}
}

func TestCheckAsPlainlyReckoned(t *testing.T) {
	r := rand.New(rand.NewSource(7))
	told := map[api.Errno]int{}
	for range 300000 {
		x := anyImage(r)
		e, number := plainly(x)
		told[e]++
		if gotE, got := image.Check(x); gotE != e || got != number {
			t.Fatalf("P7.1: %#v: Check is %d, %d; not %d, %d", x, gotE, got, e, number)
		}
	}
	for _, e := range []api.Errno{api.OK, api.ErrImage, api.ErrEntry, api.ErrPlace} {
		if told[e] < 1000 {
			t.Errorf("the images are too much alike: %d have the error %d", told[e], e)
		}
	}
}

// TestNobodyFallsOut: where a run stands behind a step at a place of the text is a place of the text, too.
func TestNobodyFallsOut(t *testing.T) {
	r := rand.New(rand.NewSource(77))
	may := 0
	for range 200000 {
		x := anyImage(r)
		if e, _ := image.Check(x); e != api.OK {
			continue
		}
		may++
		inside := func(place int) {
			if place < 0 || place >= len(x.Text) {
				t.Fatalf("What follows: %#v may be, but a run can stand at %d", x, place)
			}
		}
		inside(x.Entry)
		for at, w := range x.Text {
			n := int(w % 32768)
			switch op := w >> 27; {
			case w == jump(n) && n < 16384, w == 20<<27|w>>23%16<<23|uint32(n) && n < 16384:
				inside(n)
				if op == 20 {
					inside(at + 1)
				}
			case w == call(n) && n < 16384, w == zero(int(w>>19%16), n) && n < 16384:
				inside(n)
				inside(at + 1)
			case op >= 1 && op <= 14, op == 18:
				// Those that are no instruction fault there, but may only stand ahead of the last place, too.
				inside(at + 1)
			}
		}
	}
	if may < 1000 {
		t.Errorf("only %d images may be", may)
	}
}

func TestWriteFirstImage(t *testing.T) {
	want := []byte{80, 76, 73, 49, 0, 0, 0, 1, 168, 0, 0, 0, 0, 0, 0, 0, 0, 0, 0, 0, 234, 92, 136, 221}
	if b, e := image.Write(text(halt)); e != api.OK || !bytes.Equal(b, want) {
		t.Errorf("P7.2: halt: Write is %v, %d; not %v", b, e, want)
	}
	if b, e := image.Write(api.Image{Text: []uint32{halt}, Memory: []int64{}}); e != api.OK || !bytes.Equal(b, want) {
		t.Errorf("R4: halt: Write is %v, %d; not %v", b, e, want)
	}
}

func TestWriteByteForByte(t *testing.T) {
	x := api.Image{Text: make([]uint32, 260), Entry: 258, Memory: []int64{0, -1, math.MinInt64, math.MaxInt64, 0x0102030405060708, -2, 1<<33 + 5}}
	x.Text[0], x.Text[258], x.Text[259] = 0xFFFEFDFC, call(259), jump(258)
	b := []byte{80, 76, 73, 49, 0, 0, 1, 4, 255, 254, 253, 252}
	b = append(b, make([]byte, 4*257)...)
	b = append(b, 136, 0, 1, 3, 120, 0, 1, 2)
	b = append(b, 0, 0, 1, 2)
	b = append(b, 0, 0, 0, 7)
	b = append(b, 0, 0, 0, 0, 0, 0, 0, 0)
	b = append(b, 255, 255, 255, 255, 255, 255, 255, 255)
	b = append(b, 128, 0, 0, 0, 0, 0, 0, 0)
	b = append(b, 127, 255, 255, 255, 255, 255, 255, 255)
	b = append(b, 1, 2, 3, 4, 5, 6, 7, 8)
	b = append(b, 255, 255, 255, 255, 255, 255, 255, 254)
	b = append(b, 0, 0, 0, 2, 0, 0, 0, 5)
	b = summed(b)
	if got, e := image.Write(x); e != api.OK || !bytes.Equal(got, b) {
		t.Errorf("P7.2: each field: Write is %v, %d; not %v", got, e, b)
	}
	reads(t, "P7.3: each field", b, x)
}

func TestWriteRefuses(t *testing.T) {
	refused := []fault{
		{"no text", func(x *api.Image) { x.Text = nil }, api.ErrImage, 0},
		{"Entry -1", func(x *api.Image) { x.Entry = -1 }, api.ErrEntry, 0},
		{"Entry 2^32", func(x *api.Image) { x.Entry = 1 << 32 }, api.ErrEntry, 0},
		{"no instruction at the end", func(x *api.Image) { x.Text[4] = 1 }, api.ErrImage, 4},
		{"a call at the end", func(x *api.Image) { x.Text[4] = call(0) }, api.ErrImage, 4},
	}
	for _, f := range append(faults(), refused...) {
		x := text(make([]uint32, 5)...)
		f.turn(&x)
		checks(t, f.what, x, f.e, f.number)
		if b, e := image.Write(x); e != f.e || len(b) != 0 {
			t.Errorf("P7.2: %s: Write is %v, %d; not nothing, %d", f.what, b, e, f.e)
		}
	}
}

func TestSum(t *testing.T) {
	for _, c := range []struct {
		b    []byte
		want uint32
	}{
		{nil, 0}, {[]byte{}, 0}, {[]byte{0}, 0}, {[]byte{1}, 1}, {[]byte{255}, 255}, {[]byte{1, 2}, 33}, {[]byte{2, 1}, 63}, {[]byte{0, 0, 7}, 7},
		{[]byte{1, 0, 0, 0, 0, 0, 0}, 887503681},     // 31^6, the last power below 2^32
		{[]byte{1, 0, 0, 0, 0, 0, 0, 0}, 1742810335}, // 31^7 - 6 2^32
		{[]byte{4, 0, 0, 0, 0, 0, 0}, 3550014724},
		{[]byte{4, 26, 0, 0, 0, 0, 0}, 4294372650}, // just below 2^32
		{[]byte{4, 27, 0, 0, 0, 0, 0}, 28034505},   // just beyond
		{slices.Repeat([]byte{255}, 7), 1928985951},
	} {
		if got := image.Sum(c.b); got != c.want {
			t.Errorf("P7.4: Sum of %v is %d, not %d", c.b, got, c.want)
		}
	}
	r := rand.New(rand.NewSource(74))
	for range 2000 {
		b := make([]byte, r.Intn(3000))
		r.Read(b)
		if got, want := image.Sum(b), sumOf(b); got != want {
			t.Fatalf("P7.4: Sum of %v is %d, not %d", b, got, want)
		}
	}
}

// withRoom copies a list, with three more elements of its own behind its end.
func withRoom[T any](list []T, more T) []T {
	return append(append(make([]T, 0, len(list)+3), list...), more, more, more)[:len(list)]
}

func roomy(x api.Image) api.Image {
	x.Text, x.Memory = withRoom(x.Text, jump(2)), withRoom(x.Memory, 88)
	return x
}

func whole(x api.Image) api.Image {
	x.Text, x.Memory = x.Text[:cap(x.Text)], x.Memory[:cap(x.Memory)]
	return x
}

func TestImagesAreLeft(t *testing.T) {
	turns := append(faults(), fault{what: "nothing", turn: func(*api.Image) {}})
	for _, f := range turns {
		x := api.Image{Text: make([]uint32, 5), Entry: 2, Memory: []int64{1, -2, 3}}
		f.turn(&x)
		given, kept := roomy(x), roomy(x)
		e, number := image.Check(given)
		b, _ := image.Write(given)
		if !reflect.DeepEqual(whole(given), whole(kept)) {
			t.Errorf("R5: %s: Check or Write changed the image", f.what)
		}
		againE, again := image.Check(given)
		second, _ := image.Write(given)
		if e != againE || number != again || !bytes.Equal(b, second) {
			t.Errorf("R6: %s: another answer to the same image", f.what)
		}
	}
}

func TestWriteAnswersAreNew(t *testing.T) {
	given := sample()
	b, _ := image.Write(given)
	other, _ := image.Write(given)
	room := b[:cap(b)]
	for k := range room {
		room[k] = 1
	}
	if !bytes.Equal(other, bytesOf(sample())) {
		t.Errorf("R5: two answers of Write share memory")
	}
	given.Text[0], given.Memory[0], given.Entry = 5, 5, 5
	if !bytes.Equal(other, bytesOf(sample())) {
		t.Errorf("R5: Write keeps the image that it was given")
	}
}
