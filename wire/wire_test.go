package wire_test

import (
	"bytes"
	"encoding/binary"
	"fmt"
	"math"
	"math/rand"
	"reflect"
	"slices"
	"strings"
	"testing"

	"pleat/api"
	"pleat/object"
	"pleat/wire"
)

// Words are made by sums here, so that the tests know nothing of how package isa makes them.
func jump(n int) uint32     { return uint32(15*134217728 + n) }
func zero(a, n int) uint32  { return uint32(16*134217728 + a*524288 + n) }
func call(n int) uint32     { return uint32(17*134217728 + n) }
func place(d, n int) uint32 { return uint32(20*134217728 + d*8388608 + n) }

const halt = uint32(0xA8000000)

func haltOnly() api.Object { return api.Object{Name: "main", Code: []uint32{halt}} }

// sample tells an object that may be: Data below 0 and above 2^32, symbols of each kind, words that are no instruction, several relocations.
func sample() api.Object {
	return api.Object{
		Name:   "main.o",
		Code:   []uint32{0xFFFFFFFF, call(0), zero(2, 0), place(3, 0), 0x01020304, jump(6), halt},
		DataAt: 513,
		Data:   []int64{-1, 1 << 40, math.MinInt64, math.MaxInt64, 0, 0x0102030405060708, -2},
		Symbols: []api.Symbol{
			{Name: "f", Kind: api.Wanted},
			{Name: "here", Kind: api.Local, At: 2},
			{Name: "_start", Kind: api.Global, At: 0},
			{Name: "end", Kind: api.Weak, At: 7},
		},
		Relocs: []api.Reloc{{At: 1, Sym: 0}, {At: 2, Sym: 1}, {At: 3, Sym: 3}},
	}
}

// draft is the bytes of an object ahead of the sum, whether it may be or not, and where its numbers begin.
type draft struct {
	bytes []byte
	at    map[string]int
}

func (d *draft) number(what string, n int) {
	d.at[what] = len(d.bytes)
	d.bytes = binary.BigEndian.AppendUint32(d.bytes, uint32(n))
}

func (d *draft) text(what, s string) {
	d.number(what, len(s))
	d.bytes = append(d.bytes, s...)
}

func draftOf(o api.Object) *draft {
	d := &draft{bytes: []byte{80, 76, 79, 49}, at: map[string]int{}}
	d.text("name", o.Name)
	d.number("code", len(o.Code))
	for k, w := range o.Code {
		d.number(fmt.Sprint("code ", k), int(w))
	}
	d.number("dataAt", o.DataAt)
	d.number("data", len(o.Data))
	for _, n := range o.Data {
		d.bytes = binary.BigEndian.AppendUint64(d.bytes, uint64(n))
	}
	d.number("symbols", len(o.Symbols))
	for k, s := range o.Symbols {
		d.text(fmt.Sprintf("symbol %d name", k), s.Name)
		d.number(fmt.Sprintf("symbol %d kind", k), int(s.Kind))
		d.number(fmt.Sprintf("symbol %d at", k), s.At)
	}
	d.number("relocs", len(o.Relocs))
	for k, r := range o.Relocs {
		d.number(fmt.Sprintf("reloc %d at", k), r.At)
		d.number(fmt.Sprintf("reloc %d sym", k), r.Sym)
	}
	d.at["sum"] = len(d.bytes)
	return d
}

// sumOf reckons the sum from the right: each byte times its power of 31.
func sumOf(b []byte) uint32 {
	sum, power := uint64(0), uint64(1)
	for _, c := range slices.Backward(b) {
		sum = (sum + power*uint64(c)) % (1 << 32)
		power = power * 31 % (1 << 32)
	}
	return uint32(sum)
}

func summed(b []byte) []byte { return binary.BigEndian.AppendUint32(slices.Clone(b), sumOf(b)) }

func bytesOf(o api.Object) []byte { return summed(draftOf(o).bytes) }

// with tells the bytes with another number there, and a right sum.
func (d *draft) with(what string, n uint32) []byte {
	at, known := d.at[what]
	if !known {
		panic("the draft has no " + what)
	}
	b := slices.Clone(d.bytes)
	binary.BigEndian.PutUint32(b[at:], n)
	return summed(b)
}

func same(a, b api.Object) bool {
	return a.Name == b.Name && a.DataAt == b.DataAt && slices.Equal(a.Code, b.Code) && slices.Equal(a.Data, b.Data) &&
		slices.Equal(a.Symbols, b.Symbols) && slices.Equal(a.Relocs, b.Relocs)
}

func reads(t *testing.T, what string, b []byte, want api.Object) {
	t.Helper()
	if o, e, at := wire.Read(b); e != api.OK || at != 0 || !same(o, want) {
		t.Errorf("%s: Read is %#v, %d at %d; not %#v", what, o, e, at, want)
	}
}

func refuses(t *testing.T, what string, b []byte, e api.Errno, at int) {
	t.Helper()
	o, gotE, got := wire.Read(b)
	if gotE != e || got != at {
		t.Errorf("%s: Read is %d at %d; not %d at %d", what, gotE, got, e, at)
	}
	if !same(o, api.Object{}) {
		t.Errorf("R2: %s: beside the error Read tells %#v", what, o)
	}
}

func writes(t *testing.T, what string, o api.Object, want []byte) {
	t.Helper()
	if b, e := wire.Write(o); e != api.OK || !bytes.Equal(b, want) {
		t.Errorf("%s: Write is %v, %d; not %v", what, b, e, want)
	}
}

func TestExamples(t *testing.T) {
	b := []byte{80, 76, 79, 49, 0, 0, 0, 4, 109, 97, 105, 110, 0, 0, 0, 1, 168, 0, 0, 0, 0, 0, 0, 0, 0, 0, 0, 0, 0, 0, 0, 0, 0, 0, 0, 0, 82, 219, 237, 84}
	writes(t, "P4.1: halt", haltOnly(), b)
	reads(t, "P4.2: halt", b, haltOnly())
	refuses(t, "P4.2: without the last byte", b[:39], api.ErrBytes, 39)
	refuses(t, "P4.2: with one more", append(slices.Clone(b), 7), api.ErrBytes, 40)
	long := slices.Clone(b)
	long[7] = 25
	refuses(t, "P4.2: a name of 25 bytes", long, api.ErrBytes, 4)
	for k := 36; k < 40; k++ {
		c := slices.Clone(b)
		c[k]--
		refuses(t, "P4.2: a byte of the sum otherwise", c, api.ErrSum, 36)
	}
	if b, e := wire.Write(api.Object{Code: []uint32{halt}}); e != api.ErrName || len(b) != 0 {
		t.Errorf("P4.1: an object without a name: Write is %v, %d", b, e)
	}
}

func TestWriteByteForByte(t *testing.T) {
	o := api.Object{
		Name: "a_.9", Code: []uint32{0x88000000, 0xFFFEFDFC}, DataAt: 0x0102,
		Data:    []int64{-2, 1<<33 + 5, math.MinInt64, math.MaxInt64},
		Symbols: []api.Symbol{{Name: "l", Kind: api.Local, At: 2}, {Name: "gg", Kind: api.Global, At: 1}, {Name: "w", Kind: api.Weak}, {Name: "x", Kind: api.Wanted}},
		Relocs:  []api.Reloc{{At: 0, Sym: 3}},
	}
	b := summed([]byte{
		80, 76, 79, 49,
		0, 0, 0, 4, 97, 95, 46, 57,
		0, 0, 0, 2, 136, 0, 0, 0, 255, 254, 253, 252,
		0, 0, 1, 2,
		0, 0, 0, 4,
		255, 255, 255, 255, 255, 255, 255, 254,
		0, 0, 0, 2, 0, 0, 0, 5,
		128, 0, 0, 0, 0, 0, 0, 0,
		127, 255, 255, 255, 255, 255, 255, 255,
		0, 0, 0, 4,
		0, 0, 0, 1, 108, 0, 0, 0, 0, 0, 0, 0, 2,
		0, 0, 0, 2, 103, 103, 0, 0, 0, 1, 0, 0, 0, 1,
		0, 0, 0, 1, 119, 0, 0, 0, 2, 0, 0, 0, 0,
		0, 0, 0, 1, 120, 0, 0, 0, 3, 0, 0, 0, 0,
		0, 0, 0, 1, 0, 0, 0, 0, 0, 0, 0, 3,
	})
	writes(t, "P4.1: each field", o, b)
	reads(t, "P4.2: each field", b, o)
}

func TestWriteLeast(t *testing.T) {
	b := summed([]byte{80, 76, 79, 49, 0, 0, 0, 1, 95, 0, 0, 0, 0, 0, 0, 0, 0, 0, 0, 0, 0, 0, 0, 0, 0, 0, 0, 0, 0})
	writes(t, "P4.1: a name alone", api.Object{Name: "_"}, b)
	writes(t, "R4: empty lists", api.Object{Name: "_", Code: []uint32{}, Data: []int64{}, Symbols: []api.Symbol{}, Relocs: []api.Reloc{}}, b)
	reads(t, "P4.2: a name alone", b, api.Object{Name: "_"})
}

func numbered(n int) []api.Symbol {
	symbols := make([]api.Symbol, n)
	for k := range symbols {
		symbols[k].Name = fmt.Sprint("s", k)
	}
	return symbols
}

// mistake turns the sample into an object that may not be.
type mistake struct {
	what   string
	turn   func(o *api.Object)
	e      api.Errno
	number int
}

// tellable are mistakes that bytes within their limits can tell, so that Read meets them in object.Check.
func tellable() []mistake {
	return []mistake{
		{"no name", func(o *api.Object) { o.Name = "" }, api.ErrName, -1},
		{"no name, of 24 bytes", func(o *api.Object) { o.Name = strings.Repeat(" ", 24) }, api.ErrName, -1},
		{"a name with a byte of 0", func(o *api.Object) { o.Name = "a\x00" }, api.ErrName, -1},
		{"a name with a byte of 255", func(o *api.Object) { o.Name = "\xFF" }, api.ErrName, -1},
		{"data behind the memory", func(o *api.Object) { o.DataAt = 4097 }, api.ErrData, -1},
		{"data over the memory's end", func(o *api.Object) { o.DataAt = 4090 }, api.ErrData, -1},
		{"data at 2^31 - 1", func(o *api.Object) { o.DataAt = math.MaxInt32 }, api.ErrData, -1},
		{"a symbol's name", func(o *api.Object) { o.Symbols[2].Name = "9" }, api.ErrName, 2},
		{"no symbol's name", func(o *api.Object) { o.Symbols[0].Name = "" }, api.ErrName, 0},
		{"a symbol twice", func(o *api.Object) { o.Symbols[3].Name = "f" }, api.ErrTwice, 3},
		{"a symbol behind the code", func(o *api.Object) { o.Symbols[1].At = 8 }, api.ErrPlace, 1},
		{"a symbol at 2^31 - 1", func(o *api.Object) { o.Symbols[3].At = math.MaxInt32 }, api.ErrPlace, 3},
		{"a Wanted symbol with a place", func(o *api.Object) { o.Symbols[0].At = 1 }, api.ErrPlace, 0},
		{"a relocation behind the code", func(o *api.Object) { o.Relocs[2].At = 7 }, api.ErrReloc, 2},
		{"a relocation at 2^31 - 1", func(o *api.Object) { o.Relocs[0].At = math.MaxInt32 }, api.ErrReloc, 0},
		{"relocations that fall", func(o *api.Object) { o.Relocs[1].At = 1 }, api.ErrReloc, 1},
		{"a relocation of no symbol", func(o *api.Object) { o.Relocs[1].Sym = 4 }, api.ErrReloc, 1},
		{"a relocation of the symbol 2^31 - 1", func(o *api.Object) { o.Relocs[2].Sym = math.MaxInt32 }, api.ErrReloc, 2},
		{"a relocation of a word without a target", func(o *api.Object) { o.Code[2] = halt }, api.ErrReloc, 1},
		{"a relocation of another target", func(o *api.Object) { o.Code[1] = call(2) }, api.ErrReloc, 0},
		{"a target behind the code", func(o *api.Object) { o.Code[5] = jump(8) }, api.ErrPlace, -6},
	}
}

// untellable are mistakes whose bytes are refused ahead, or that no bytes can tell.
func untellable() []mistake {
	return []mistake{
		{"a name of 25 bytes", func(o *api.Object) { o.Name = strings.Repeat("a", 25) }, api.ErrName, -1},
		{"much code", func(o *api.Object) { o.Code = make([]uint32, 16385) }, api.ErrMany, -1},
		{"many symbols", func(o *api.Object) { o.Symbols = numbered(257) }, api.ErrMany, -2},
		{"many relocations", func(o *api.Object) { o.Relocs = make([]api.Reloc, 8) }, api.ErrMany, -3},
		{"data below the memory", func(o *api.Object) { o.DataAt = -1 }, api.ErrData, -1},
		{"much data", func(o *api.Object) { o.DataAt, o.Data = 0, make([]int64, 4097) }, api.ErrData, -1},
		{"data at 2^32", func(o *api.Object) { o.DataAt = 1 << 32 }, api.ErrData, -1},
		{"a kind of 4", func(o *api.Object) { o.Symbols[1].Kind = 4 }, api.ErrKind, 1},
		{"a kind of -1", func(o *api.Object) { o.Symbols[2].Kind = -1 }, api.ErrKind, 2},
		{"a symbol at -1", func(o *api.Object) { o.Symbols[1].At = -1 }, api.ErrPlace, 1},
		{"a symbol at 2^32", func(o *api.Object) { o.Symbols[1].At = 1 << 32 }, api.ErrPlace, 1},
		{"a relocation at -1", func(o *api.Object) { o.Relocs[0].At = -1 }, api.ErrReloc, 0},
		{"a relocation of the symbol -1", func(o *api.Object) { o.Relocs[0].Sym = -1 }, api.ErrReloc, 0},
	}
}

func TestWriteRefuses(t *testing.T) {
	for _, m := range append(tellable(), untellable()...) {
		o := sample()
		m.turn(&o)
		if e, number := object.Check(o); e != m.e || number != m.number {
			t.Errorf("%s: Check is %d, %d; not %d, %d", m.what, e, number, m.e, m.number)
		}
		if b, e := wire.Write(o); e != m.e || len(b) != 0 {
			t.Errorf("P4.1: %s: Write is %v, %d; not nothing, %d", m.what, b, e, m.e)
		}
	}
	if b, e := wire.Write(api.Object{}); e != api.ErrName || len(b) != 0 {
		t.Errorf("P4.1: nothing at all: Write is %v, %d", b, e)
	}
}

func TestReadObjectThatMayNotBe(t *testing.T) {
	for _, m := range tellable() {
		o := sample()
		m.turn(&o)
		b := bytesOf(o)
		refuses(t, "P4.2: "+m.what, b, m.e, m.number)
		b[len(b)-1]++
		refuses(t, "P4.2: a wrong sum ahead of "+m.what, b, api.ErrSum, len(b)-4)
		refuses(t, "P4.2: a byte more ahead of "+m.what, append(bytesOf(o), 0), api.ErrBytes, len(b))
		refuses(t, "P4.2: a byte less ahead of "+m.what, b[:len(b)-1], api.ErrBytes, len(b)-1)
	}
}

func TestReadBeginning(t *testing.T) {
	refuses(t, "P4.2: no bytes", nil, api.ErrBytes, 0)
	refuses(t, "R4: no bytes", []byte{}, api.ErrBytes, 0)
	whole := bytesOf(sample())
	for k := range 4 {
		for c := range 256 {
			if byte(c) == whole[k] {
				continue
			}
			b := slices.Clone(whole)
			b[k] = byte(c)
			refuses(t, "P4.2: another beginning", b, api.ErrBytes, k)
			refuses(t, "P4.2: another beginning that ends there", b[:k+1], api.ErrBytes, k)
			b[3] = 0
			refuses(t, "P4.2: another beginning twice", b, api.ErrBytes, k)
		}
	}
	refuses(t, "P4.2: an image's beginning", []byte("PLI1"), api.ErrBytes, 2)
}

func TestReadTooShort(t *testing.T) {
	for _, o := range []api.Object{{Name: "_"}, haltOnly(), sample()} {
		b := bytesOf(o)
		for length := range b {
			refuses(t, "P4.2: too short", b[:length:length], api.ErrBytes, length)
			// What lies behind the end is no part of the bytes.
			refuses(t, "P4.2: too short, with room", b[:length], api.ErrBytes, length)
		}
	}
}

func TestReadCountsAtTheirLimits(t *testing.T) {
	names := sample()
	names.Name, names.Symbols[0].Name, names.Symbols[3].Name = strings.Repeat("n", 24), strings.Repeat("f", 24), strings.Repeat("e", 24)
	code := api.Object{Name: "a", Code: make([]uint32, 16384)}
	data := api.Object{Name: "a", Data: make([]int64, 4096)}
	data.Data[4095] = -7
	symbols := api.Object{Name: "a", Symbols: numbered(256)}
	relocs := api.Object{Name: "a", Code: []uint32{call(0), jump(0)}, Symbols: numbered(1), Relocs: []api.Reloc{{At: 0}, {At: 1}}}
	all := api.Object{Name: strings.Repeat("n", 24), Code: slices.Repeat([]uint32{jump(0)}, 16384), Data: data.Data, Symbols: numbered(256), Relocs: make([]api.Reloc, 16384)}
	for k := range all.Relocs {
		all.Relocs[k] = api.Reloc{At: k, Sym: k % 256}
	}
	end := api.Object{Name: "a", DataAt: 4096}
	for what, o := range map[string]api.Object{"names": names, "code": code, "data": data, "symbols": symbols, "relocations": relocs, "all": all, "DataAt": end} {
		b := bytesOf(o)
		if got, e, at := wire.Read(b); e != api.OK || at != 0 || !same(got, o) {
			t.Errorf("P4.2: %s at the limit: Read is %d at %d", what, e, at)
		}
		if got, e := wire.Write(o); e != api.OK || !bytes.Equal(got, b) {
			t.Errorf("P4.1: %s at the limit: Write is %d", what, e)
		}
	}
}

// over are objects that have one too many of something, and which number tells that.
func over() map[string]api.Object {
	name, symbol, code, data, symbols, relocs := sample(), sample(), sample(), sample(), sample(), sample()
	name.Name = strings.Repeat("n", 25)
	symbol.Symbols[2].Name = strings.Repeat("s", 25)
	code.Code = make([]uint32, 16385)
	data.Data = make([]int64, 4097)
	symbols.Symbols = numbered(257)
	relocs.Relocs = make([]api.Reloc, 8)
	return map[string]api.Object{"name": name, "symbol 2 name": symbol, "code": code, "data": data, "symbols": symbols, "relocs": relocs}
}

func TestReadCountsAboveTheirLimits(t *testing.T) {
	for what, o := range over() {
		d := draftOf(o)
		refuses(t, "P4.2: "+what+" with all that it counts", summed(d.bytes), api.ErrBytes, d.at[what])
	}
	d := draftOf(sample())
	for what, most := range map[string]uint32{
		"name": 24, "code": 16384, "data": 4096, "symbols": 256, "relocs": 7,
		"symbol 0 name": 24, "symbol 1 name": 24, "symbol 2 name": 24, "symbol 3 name": 24,
	} {
		for _, n := range []uint32{most + 1, most + 256, most + 65536, 1 << 24, math.MaxInt32, 1 << 31, math.MaxUint32} {
			b := d.with(what, n)
			refuses(t, fmt.Sprintf("P4.2: %s of %d", what, n), b, api.ErrBytes, d.at[what])
			refuses(t, fmt.Sprintf("P4.2: %s of %d, and nothing behind it", what, n), b[:d.at[what]+4], api.ErrBytes, d.at[what])
			// Ahead of its last byte nobody knows the number.
			refuses(t, fmt.Sprintf("P4.2: %s of %d, cut", what, n), b[:d.at[what]+3], api.ErrBytes, d.at[what]+3)
		}
		b := d.with(what, most)
		refuses(t, fmt.Sprintf("P4.2: %s of %d, and nothing behind it", what, most), b[:d.at[what]+4], api.ErrBytes, d.at[what]+4)
	}
	none := draftOf(api.Object{Name: "a", Symbols: numbered(1)})
	refuses(t, "P4.2: a relocation without code", none.with("relocs", 1), api.ErrBytes, none.at["relocs"])
}

func TestReadKinds(t *testing.T) {
	for kind := api.Local; kind <= api.Wanted; kind++ {
		o := sample()
		o.Symbols[2].Kind = kind
		reads(t, "P4.2: a kind", bytesOf(o), o)
	}
	d := draftOf(sample())
	for k := range 4 {
		what := fmt.Sprintf("symbol %d kind", k)
		for _, n := range []uint32{4, 5, 127, 128, 255, 256, 257, 1 << 24, math.MaxInt32, 1 << 31, math.MaxUint32} {
			refuses(t, fmt.Sprintf("P4.2: a kind of %d", n), d.with(what, n), api.ErrBytes, d.at[what])
		}
	}
}

func TestReadPlaces(t *testing.T) {
	d := draftOf(sample())
	for what, c := range map[string]struct {
		e      api.Errno
		number int
	}{
		"dataAt":      {api.ErrData, -1},
		"symbol 0 at": {api.ErrPlace, 0}, "symbol 1 at": {api.ErrPlace, 1}, "symbol 2 at": {api.ErrPlace, 2}, "symbol 3 at": {api.ErrPlace, 3},
		"reloc 0 at": {api.ErrReloc, 0}, "reloc 1 at": {api.ErrReloc, 1}, "reloc 2 at": {api.ErrReloc, 2},
		"reloc 0 sym": {api.ErrReloc, 0}, "reloc 1 sym": {api.ErrReloc, 1}, "reloc 2 sym": {api.ErrReloc, 2},
	} {
		refuses(t, "P4.2: "+what+" of 2^31 - 1", d.with(what, math.MaxInt32), c.e, c.number)
		for _, n := range []uint32{1 << 31, 1<<31 + 1, math.MaxUint32} {
			refuses(t, fmt.Sprintf("P4.2: %s of %d", what, n), d.with(what, n), api.ErrBytes, d.at[what])
		}
	}
}

func TestReadEnd(t *testing.T) {
	for _, o := range []api.Object{{Name: "_"}, haltOnly(), sample()} {
		right := bytesOf(o)
		end := len(right)
		wrong := slices.Clone(right)
		wrong[end-2] ^= 64
		refuses(t, "P4.2: a wrong sum", wrong, api.ErrSum, end-4)
		for _, more := range [][]byte{{0}, {255}, {0, 0, 0, 0}, right} {
			refuses(t, "P4.2: more behind a right sum", append(slices.Clone(right), more...), api.ErrBytes, end)
			// The document names the byte behind the sum ahead of the sum.
			refuses(t, "P4.2: more behind a wrong sum", append(slices.Clone(wrong), more...), api.ErrBytes, end)
		}
		again := summed(right)
		refuses(t, "P4.2: a sum of the sum, too", again, api.ErrBytes, end)
	}
}

// TestReadLeftFirst lays two wrong numbers at once, and another end: the left one is told.
func TestReadLeftFirst(t *testing.T) {
	d := draftOf(sample())
	wrongs := []string{
		"name", "code", "dataAt", "data", "symbols", "symbol 0 name", "symbol 0 kind", "symbol 0 at",
		"symbol 3 name", "symbol 3 kind", "symbol 3 at", "relocs", "reloc 0 at", "reloc 0 sym", "reloc 2 at", "reloc 2 sym",
	}
	for i, left := range wrongs {
		for _, right := range wrongs[i+1:] {
			b := d.with(left, 1<<31)
			binary.BigEndian.PutUint32(b[d.at[right]:], 1<<31)
			at := d.at[left]
			refuses(t, "P4.2: "+left+" and "+right, b, api.ErrBytes, at)
			refuses(t, "P4.2: "+left+" and a byte more", append(b, 0), api.ErrBytes, at)
			refuses(t, "P4.2: "+left+" and a byte less", b[:len(b)-1], api.ErrBytes, at)
			refuses(t, "P4.2: "+right+" behind the end", b[:d.at[left]], api.ErrBytes, at)
			b[1] = 0
			refuses(t, "P4.2: the beginning and "+left, b, api.ErrBytes, 1)
		}
	}
}

func TestThereAndBack(t *testing.T) {
	r := rand.New(rand.NewSource(4))
	for range 3000 {
		o := anyObject(r)
		b, e := wire.Write(o)
		if e != api.OK || !bytes.Equal(b, bytesOf(o)) {
			t.Fatalf("P4.1: %#v: Write is %v, %d", o, b, e)
		}
		back, e, at := wire.Read(b)
		if e != api.OK || at != 0 || !same(back, o) {
			t.Fatalf("W6: %#v: Read of Write is %#v, %d at %d", o, back, e, at)
		}
		if again, e := wire.Write(back); e != api.OK || !bytes.Equal(again, b) {
			t.Fatalf("W6: %v: Write of Read is %v, %d", b, again, e)
		}
	}
}

// anyObject tells one that may be.
func anyObject(r *rand.Rand) api.Object {
	o := api.Object{Name: anyName(r), DataAt: r.Intn(4000)}
	for range r.Intn(9) {
		o.Data = append(o.Data, int64(r.Uint64())>>r.Intn(64))
	}
	for k := range r.Intn(6) {
		o.Symbols = append(o.Symbols, api.Symbol{Name: fmt.Sprint(anyName(r)[:1], k), Kind: int8(r.Intn(4))})
	}
	for k := range r.Intn(9) {
		if len(o.Symbols) > 0 && r.Intn(2) == 0 {
			o.Code = append(o.Code, []uint32{jump(0), call(0), zero(r.Intn(16), 0), place(r.Intn(16), 0)}[r.Intn(4)])
			o.Relocs = append(o.Relocs, api.Reloc{At: k, Sym: r.Intn(len(o.Symbols))})
		} else {
			o.Code = append(o.Code, []uint32{halt, jump(k), 22<<27 | r.Uint32()>>5, 0}[r.Intn(4)])
		}
	}
	for k := range o.Symbols {
		if o.Symbols[k].Kind != api.Wanted {
			o.Symbols[k].At = r.Intn(len(o.Code) + 1)
		}
	}
	return o
}

func anyName(r *rand.Rand) string {
	s := "qB_"[r.Intn(3):][:1]
	for range r.Intn(24) {
		s += "zA_.09"[r.Intn(6):][:1]
	}
	return s
}

func TestOneByteOtherwise(t *testing.T) {
	for _, o := range []api.Object{{Name: "_"}, haltOnly(), sample(), {Name: "a", Data: []int64{0, 0, 0}, Symbols: numbered(2)}} {
		b := bytesOf(o)
		for k, was := range b {
			for c := range 256 {
				if byte(c) == was {
					continue
				}
				b[k] = byte(c)
				if got, e, _ := wire.Read(b); e == api.OK || !same(got, api.Object{}) {
					t.Errorf("What follows: the byte %d of %s is %d, not %d: Read is %#v, %d", k, o.Name, c, was, got, e)
				}
			}
			b[k] = was
		}
		reads(t, "What follows: as it was", b, o)
	}
}

// withRoom copies a list, with three more elements of its own behind its end.
func withRoom[T any](list []T, more T) []T {
	return append(append(make([]T, 0, len(list)+3), list...), more, more, more)[:len(list)]
}

func roomy(o api.Object) api.Object {
	o.Code, o.Data = withRoom(o.Code, 77), withRoom(o.Data, 88)
	o.Symbols, o.Relocs = withRoom(o.Symbols, api.Symbol{Name: "room"}), withRoom(o.Relocs, api.Reloc{At: 99})
	return o
}

func whole(o api.Object) api.Object {
	o.Code, o.Data, o.Symbols, o.Relocs = o.Code[:cap(o.Code)], o.Data[:cap(o.Data)], o.Symbols[:cap(o.Symbols)], o.Relocs[:cap(o.Relocs)]
	return o
}

func TestWriteLeavesTheObject(t *testing.T) {
	turns := append(append(tellable(), untellable()...), mistake{what: "nothing", turn: func(*api.Object) {}})
	for _, m := range turns {
		o := sample()
		m.turn(&o)
		given, kept := roomy(o), roomy(o)
		wire.Write(given)
		if !reflect.DeepEqual(whole(given), whole(kept)) {
			t.Errorf("R5: %s: Write changed the object", m.what)
		}
	}
}

func TestReadLeavesTheBytes(t *testing.T) {
	right := bytesOf(sample())
	wrong := slices.Clone(right)
	wrong[len(wrong)-1]++
	for what, b := range map[string][]byte{"right": right, "wrong": wrong, "short": right[:50], "long": append(slices.Clone(right), 1, 2), "none": nil} {
		given, kept := withRoom(b, 99), withRoom(b, 99)
		wire.Read(given)
		if !bytes.Equal(given[:cap(given)], kept[:cap(kept)]) {
			t.Errorf("R5: %s: Read changed the bytes", what)
		}
	}
}

func TestAnswersAreNew(t *testing.T) {
	b, _ := wire.Write(sample())
	other, _ := wire.Write(sample())
	room := b[:cap(b)]
	for k := range room {
		room[k] = 1
	}
	if !bytes.Equal(other, bytesOf(sample())) {
		t.Errorf("R5: two answers of Write share memory")
	}

	given := bytesOf(sample())
	o, _, _ := wire.Read(given)
	second, _, _ := wire.Read(given)
	for k := range given {
		given[k] = 2
	}
	if !same(o, sample()) {
		t.Errorf("R5: Read keeps the bytes that it was given")
	}
	spoil(whole(o))
	if !same(second, sample()) {
		t.Errorf("R5: two answers of Read share memory")
	}
}

func spoil(o api.Object) {
	for k := range o.Code {
		o.Code[k] = 3
	}
	for k := range o.Data {
		o.Data[k] = 3
	}
	for k := range o.Symbols {
		o.Symbols[k] = api.Symbol{Name: "spoilt"}
	}
	for k := range o.Relocs {
		o.Relocs[k] = api.Reloc{At: 3, Sym: 3}
	}
}

// plainly reckons what Read is to answer, by one walk whose first fault stays.
func plainly(b []byte) (o api.Object, e api.Errno, where int) {
	at := 0
	fail := func(why api.Errno, place int) {
		if e == api.OK {
			e, where = why, place
		}
	}
	bytesUp := func(n int) []byte {
		if e != api.OK || len(b)-at < n {
			fail(api.ErrBytes, len(b))
			return make([]byte, n)
		}
		at += n
		return b[at-n : at]
	}
	number := func(most uint32) int {
		from := at
		n := binary.BigEndian.Uint32(bytesUp(4))
		if n > most {
			fail(api.ErrBytes, from)
		}
		if e != api.OK {
			return 0
		}
		return int(n)
	}
	for k, c := range []byte{80, 76, 79, 49} {
		if k < len(b) && b[k] != c {
			fail(api.ErrBytes, k)
		}
	}
	bytesUp(4)
	o.Name = string(bytesUp(number(24)))
	for range number(16384) {
		o.Code = append(o.Code, uint32(number(math.MaxUint32)))
	}
	o.DataAt = number(math.MaxInt32)
	for range number(4096) {
		o.Data = append(o.Data, int64(binary.BigEndian.Uint64(bytesUp(8))))
	}
	for range number(256) {
		o.Symbols = append(o.Symbols, api.Symbol{Name: string(bytesUp(number(24))), Kind: int8(number(3)), At: number(math.MaxInt32)})
	}
	for range number(uint32(len(o.Code))) {
		o.Relocs = append(o.Relocs, api.Reloc{At: number(math.MaxInt32), Sym: number(math.MaxInt32)})
	}
	ahead := at
	told := binary.BigEndian.Uint32(bytesUp(4))
	if at < len(b) {
		fail(api.ErrBytes, at)
	}
	if e == api.OK && told != sumOf(b[:ahead]) {
		fail(api.ErrSum, ahead)
	}
	if e == api.OK {
		fail(object.Check(o))
	}
	if e != api.OK {
		return api.Object{}, e, where
	}
	return o, api.OK, 0
}

// anyBytes tells those of an object, with some of its numbers and bytes otherwise, cut or with more behind.
func anyBytes(r *rand.Rand) []byte {
	d := draftOf(anyObject(r))
	numbers := slices.Sorted(func(yield func(string) bool) {
		for what := range d.at {
			if what != "sum" && !yield(what) {
				return
			}
		}
	})
	b := slices.Clone(d.bytes)
	for range r.Intn(3) {
		n := []uint32{0, 1, 2, 3, 4, 7, 24, 25, 256, 257, 4096, 4097, 16384, 16385, math.MaxInt32, 1 << 31, math.MaxUint32}[r.Intn(17)]
		binary.BigEndian.PutUint32(b[d.at[numbers[r.Intn(len(numbers))]]:], n)
	}
	for range r.Intn(3) {
		b[r.Intn(len(b))] = byte(r.Intn(256))
	}
	switch r.Intn(8) {
	case 0:
		b = b[:r.Intn(len(b))]
	case 1:
		b = append(b, make([]byte, r.Intn(40))...)
	}
	if r.Intn(4) > 0 {
		b = summed(b)
	}
	return b
}

func TestReadAsPlainlyReckoned(t *testing.T) {
	r := rand.New(rand.NewSource(11))
	met := map[api.Errno]int{}
	for range 60000 {
		b := anyBytes(r)
		o, e, at := wire.Read(b)
		wantO, wantE, want := plainly(b)
		if e != wantE || at != want || !same(o, wantO) {
			t.Fatalf("P4.2: %v: Read is %#v, %d at %d; not %#v, %d at %d", b, o, e, at, wantO, wantE, want)
		}
		met[e]++
		if e != api.OK {
			continue
		}
		if again, e := wire.Write(o); e != api.OK || !bytes.Equal(again, b) {
			t.Fatalf("W6: %v: Write of Read is %v, %d", b, again, e)
		}
	}
	for _, e := range []api.Errno{api.OK, api.ErrBytes, api.ErrSum, api.ErrName, api.ErrData, api.ErrPlace, api.ErrReloc} {
		if met[e] < 20 {
			t.Errorf("the bytes held against the reckoning met the error %d only %d times", e, met[e])
		}
	}
}
