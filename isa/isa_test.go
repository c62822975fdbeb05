package isa_test

import (
	"math"
	"strings"
	"testing"

	"pleat/api"
	"pleat/isa"
)

const (
	none   = int8(-1)
	bound  = int64(16384) // 2^14
	places = 16384
)

// row tells an op as DOC.md's table and chapter 2 do: its fields are the letters D, A, B, N, and P for an N that is a place.
type row struct {
	op     int8
	name   string
	fields string
	ends   bool
	falls  bool
}

// rows are written out by hand, so that they know nothing of how the package makes its own.
var rows = []row{
	{0, "trap", "", true, false},
	{1, "set", "DN", false, true},
	{2, "move", "DA", false, true},
	{3, "add", "DAB", false, true},
	{4, "sub", "DAB", false, true},
	{5, "mul", "DAB", false, true},
	{6, "and", "DAB", false, true},
	{7, "or", "DAB", false, true},
	{8, "xor", "DAB", false, true},
	{9, "less", "DAB", false, true},
	{10, "same", "DAB", false, true},
	{11, "load", "DAN", false, true},
	{12, "store", "ABN", false, true},
	{13, "in", "D", false, true},
	{14, "out", "AN", false, true},
	{15, "jump", "P", true, false},
	{16, "zero", "AP", true, true},
	{17, "call", "P", true, false},
	{18, "calls", "A", true, false},
	{19, "go", "A", true, false},
	{20, "place", "DP", false, true},
	{21, "halt", "", true, false},
}

func rowOf(op int8) (row, bool) {
	if op < 0 || int(op) >= len(rows) {
		return row{}, false
	}
	return rows[op], true
}

func (r row) has(field string) bool { return strings.Contains(r.fields, field) }

func (r row) registerMayBe(field string, number int8) bool {
	if r.has(field) {
		return number >= 0 && number <= 15
	}
	return number == 0
}

func (r row) numberMayBe(n int64) bool {
	switch {
	case r.has("P"):
		return n >= 0 && n <= 16383
	case r.has("N"):
		return n >= -16384 && n <= 16383
	}
	return n == 0
}

// expectedWord lays the fields side by side by sums, not by shifts.
func expectedWord(i api.Ins) (uint32, api.Errno) {
	r, is := rowOf(i.Op)
	if !is {
		return 0, api.ErrIns
	}
	if !r.registerMayBe("D", i.D) || !r.registerMayBe("A", i.A) || !r.registerMayBe("B", i.B) || !r.numberMayBe(i.N) {
		return 0, api.ErrField
	}
	n := i.N
	if n < 0 {
		n += 32768
	}
	return uint32(int64(i.Op)*134217728 + int64(i.D)*8388608 + int64(i.A)*524288 + int64(i.B)*32768 + n), api.OK
}

// expectedIns takes a word apart by divisions, field by field from the lowest.
func expectedIns(w uint32) api.Ins {
	rest := int64(w)
	cut := func(by int64) int64 {
		part := rest % by
		rest /= by
		return part
	}
	i := api.Ins{N: cut(32768)}
	i.B, i.A, i.D, i.Op = int8(cut(16)), int8(cut(16)), int8(cut(16)), int8(cut(32))
	if i.N >= bound {
		i.N -= 32768
	}
	if _, e := expectedWord(i); e != api.OK {
		return api.Ins{Op: none, N: int64(w)}
	}
	return i
}

func allOps(look func(op int8)) {
	for op := math.MinInt8; op <= math.MaxInt8; op++ {
		look(int8(op))
	}
}

// manyWords tells, for each of the 32 Ops that bits can make: every N, and every D, A and B with an N of each kind.
func manyWords(look func(w uint32)) {
	for op := uint32(0); op < 32; op++ {
		for n := uint32(0); n < 32768; n++ {
			look(op<<27 | n)
			look(op<<27 | 3<<23 | 9<<19 | n)
		}
		for registers := uint32(0); registers < 4096; registers++ {
			for _, n := range []uint32{0, 1, 16383, 16384, 32767} {
				look(op<<27 | registers<<15 | n)
			}
		}
	}
}

// manyInstructions tells, for every Op that an int8 can be, all fields at their edges.
func manyInstructions(look func(i api.Ins)) {
	registers := []int8{0, 1, 7, 15, 16, 127, -1, -128}
	numbers := []int64{
		0, 1, -1, 5, bound - 1, bound, -bound, -bound - 1, 32767, 32768, 1 << 31, 1 << 32, 1<<32 + 5,
		math.MaxInt64, math.MinInt64,
	}
	allOps(func(op int8) {
		for _, d := range registers {
			for _, a := range registers {
				for _, b := range registers {
					for _, n := range numbers {
						look(api.Ins{Op: op, D: d, A: a, B: b, N: n})
					}
				}
			}
		}
	})
}

func TestName(t *testing.T) {
	allOps(func(op int8) {
		r, _ := rowOf(op)
		if name := isa.Name(op); name != r.name {
			t.Errorf("P2.1: Name(%d) is %q, not %q", op, name, r.name)
		}
	})
}

func TestNamesOfTheGivenOps(t *testing.T) {
	for _, c := range []struct {
		op   int8
		name string
	}{
		{api.Trap, "trap"}, {api.Set, "set"}, {api.Move, "move"}, {api.Add, "add"}, {api.Same, "same"},
		{api.Load, "load"}, {api.Store, "store"}, {api.In, "in"}, {api.Out, "out"}, {api.Jump, "jump"},
		{api.Zero, "zero"}, {api.Call, "call"}, {api.Calls, "calls"}, {api.Go, "go"}, {api.Place, "place"}, {api.Halt, "halt"},
	} {
		if name := isa.Name(c.op); name != c.name {
			t.Errorf("P2.1: Name(%d) is %q, not %q", c.op, name, c.name)
		}
	}
}

func TestOf(t *testing.T) {
	for _, r := range rows {
		if op, is := isa.Of(r.name); op != r.op || !is {
			t.Errorf("P2.1: Of(%q) is %d, %v", r.name, op, is)
		}
	}
}

func TestOfWhatIsNoName(t *testing.T) {
	names := []string{"", " ", "Trap", "SET", "call ", " call", "cal", "callss", "set\n", "set 1", "nop", "0", "21", "halt\x00", "\xff", "trapset", strings.Repeat("set", 1000)}
	for _, r := range rows {
		names = append(names, r.name[:len(r.name)-1]+"#", strings.ToUpper(r.name), strings.ToUpper(r.name[:1])+r.name[1:], r.name+"x")
	}
	for _, name := range names {
		if op, is := isa.Of(name); op != 0 || is {
			t.Errorf("P2.1: Of(%q) is %d, %v", name, op, is)
		}
	}
}

func TestHas(t *testing.T) {
	allOps(func(op int8) {
		r, _ := rowOf(op)
		d, a, b, n, place := isa.Has(op)
		got := [5]bool{d, a, b, n, place}
		want := [5]bool{r.has("D"), r.has("A"), r.has("B"), r.has("N") || r.has("P"), r.has("P")}
		if got != want {
			t.Errorf("P2.1: Has(%d) is %v, not %v", op, got, want)
		}
	})
}

func TestEncodeByHand(t *testing.T) {
	for _, c := range []struct {
		i    api.Ins
		want uint32
	}{
		{api.Ins{Op: api.Trap}, 0},
		{api.Ins{Op: api.Set, D: 1, N: -1}, 0x08807FFF},
		{api.Ins{Op: api.Set, N: -bound}, 0x08004000},
		{api.Ins{Op: api.Set, D: 15, N: bound - 1}, 0x0F803FFF},
		{api.Ins{Op: api.Move, D: 1, A: 15}, 0x10F80000},
		{api.Ins{Op: api.Add, D: 1, A: 2, B: 3}, 0x18918000},
		{api.Ins{Op: api.Sub, D: 15, A: 15, B: 15}, 0x27FF8000},
		{api.Ins{Op: api.Mul, B: 1}, 0x28008000},
		{api.Ins{Op: api.And, A: 1}, 0x30080000},
		{api.Ins{Op: api.Or, D: 1}, 0x38800000},
		{api.Ins{Op: api.Xor}, 0x40000000},
		{api.Ins{Op: api.Less, B: 15}, 0x48078000},
		{api.Ins{Op: api.Same, A: 15}, 0x50780000},
		{api.Ins{Op: api.Load, D: 2, A: 3, N: -bound}, 0x59184000},
		{api.Ins{Op: api.Store, A: 4, B: 5, N: 6}, 0x60228006},
		{api.Ins{Op: api.In, D: 15}, 0x6F800000},
		{api.Ins{Op: api.Out, A: 1, N: -2}, 0x70087FFE},
		{api.Ins{Op: api.Jump, N: 5}, 0x78000005},
		{api.Ins{Op: api.Zero, A: 1, N: bound - 1}, 0x80083FFF},
		{api.Ins{Op: api.Call, N: 0}, 0x88000000},
		{api.Ins{Op: api.Calls, A: 7}, 0x90380000},
		{api.Ins{Op: api.Go, A: 15}, 0x98780000},
		{api.Ins{Op: api.Place, D: 2, N: bound - 1}, 0xA1003FFF},
		{api.Ins{Op: api.Halt}, 0xA8000000},
	} {
		if w, e := isa.Encode(c.i); w != c.want || e != api.OK {
			t.Errorf("P2.2: Encode(%v) is %#x, %d; not %#x", c.i, w, e, c.want)
		}
		if i := isa.Decode(c.want); i != c.i {
			t.Errorf("P2.3: Decode(%#x) is %v, not %v", c.want, i, c.i)
		}
	}
}

func TestEncodeRefusesByHand(t *testing.T) {
	for _, c := range []struct {
		i    api.Ins
		want api.Errno
	}{
		{api.Ins{Op: -1}, api.ErrIns},
		{api.Ins{Op: 22}, api.ErrIns},
		{api.Ins{Op: 127}, api.ErrIns},
		{api.Ins{Op: -128}, api.ErrIns},
		{api.Ins{Op: 22, D: 16, N: bound}, api.ErrIns}, // both errors apply: ErrIns is named first
		{api.Ins{Op: -1, N: 1}, api.ErrIns},
		{api.Ins{Op: api.Add, N: 1}, api.ErrField},
		{api.Ins{Op: api.Add, D: 16}, api.ErrField},
		{api.Ins{Op: api.Add, B: -1}, api.ErrField},
		{api.Ins{Op: api.Move, A: 16}, api.ErrField},
		{api.Ins{Op: api.Move, B: 1}, api.ErrField},
		{api.Ins{Op: api.Set, N: bound}, api.ErrField},
		{api.Ins{Op: api.Set, N: -bound - 1}, api.ErrField},
		{api.Ins{Op: api.Set, N: 1<<32 + 1}, api.ErrField},
		{api.Ins{Op: api.Store, D: 1}, api.ErrField},
		{api.Ins{Op: api.Jump, N: -1}, api.ErrField},
		{api.Ins{Op: api.Place, N: bound}, api.ErrField},
		{api.Ins{Op: api.Halt, N: -1}, api.ErrField},
		{api.Ins{Op: api.Trap, D: 1}, api.ErrField},
	} {
		if w, e := isa.Encode(c.i); w != 0 || e != c.want {
			t.Errorf("P2.2: Encode(%v) is %#x, %d; not error %d", c.i, w, e, c.want)
		}
	}
}

func TestEncode(t *testing.T) {
	manyInstructions(func(i api.Ins) {
		w, e := isa.Encode(i)
		if want, wantE := expectedWord(i); w != want || e != wantE {
			t.Fatalf("P2.2: Encode(%v) is %#x, %d; not %#x, %d", i, w, e, want, wantE)
		}
		if e == api.OK && isa.Decode(w) != i {
			t.Fatalf("What follows: Decode(Encode(%v)) is %v", i, isa.Decode(w))
		}
	})
}

func TestDecodeOfNoInstruction(t *testing.T) {
	for _, w := range []uint32{
		1, 0x00008000, 0x00080000, 0x00800000, // a trap with bits that it does not have
		0x18918001, 0x10F88000, 0xA8000001, 0x98F80000,
		0x78004000, 0x80004000, 0x88007FFF, 0xA1004000, // places at 2^14 and above
		0xB0000000, 0xB8000000, 0xF8000000, 0xFFFFFFFF, // an Op above 21
	} {
		if i := isa.Decode(w); i != (api.Ins{Op: none, N: int64(w)}) {
			t.Errorf("P2.3: Decode(%#x) is %v", w, i)
		}
	}
}

func TestDecode(t *testing.T) {
	manyWords(func(w uint32) {
		i := isa.Decode(w)
		if want := expectedIns(w); i != want {
			t.Fatalf("P2.3: Decode(%#x) is %v, not %v", w, i, want)
		}
		back, e := isa.Encode(i)
		if i.Op == none && (back != 0 || e != api.ErrIns) {
			t.Fatalf("P2.2: Encode of the word %#x, which is no instruction, is %#x, %d", w, back, e)
		}
		if i.Op != none && (back != w || e != api.OK) {
			t.Fatalf("What follows: Encode(Decode(%#x)) is %#x, %d", w, back, e)
		}
	})
}

func TestEndsAndFalls(t *testing.T) {
	manyWords(func(w uint32) {
		r, is := rowOf(expectedIns(w).Op)
		if !is {
			r.ends = true
		}
		if ends := isa.Ends(w); ends != r.ends {
			t.Fatalf("P2.4: Ends(%#x) is %v", w, ends)
		}
		if falls := isa.Falls(w); falls != r.falls {
			t.Fatalf("P2.4: Falls(%#x) is %v", w, falls)
		}
	})
}

func TestTarget(t *testing.T) {
	manyWords(func(w uint32) {
		i := expectedIns(w)
		r, _ := rowOf(i.Op)
		want := 0
		if r.has("P") {
			want = int(i.N)
		}
		if place, is := isa.Target(w); place != want || is != r.has("P") {
			t.Fatalf("P2.5: Target(%#x) is %d, %v; not %d, %v", w, place, is, want, r.has("P"))
		}
	})
}

func TestAim(t *testing.T) {
	targets := []int{0, 1, 7, places - 1, places, places + 1, 32767, 32768, 1 << 32, 1<<32 + 7, -1, -places, math.MaxInt, math.MinInt}
	words := []uint32{}
	manyInstructions(func(i api.Ins) {
		if w, e := expectedWord(i); e == api.OK {
			words = append(words, w)
		}
	})
	words = append(words, 1, 0x78004000, 0x80008001, 0xB0000000, 0xFFFFFFFF)
	for _, w := range words {
		for _, place := range targets {
			want, wantE := expectedAim(w, place)
			if got, e := isa.Aim(w, place); got != want || e != wantE {
				t.Fatalf("P2.5: Aim(%#x, %d) is %#x, %d; not %#x, %d", w, place, got, e, want, wantE)
			}
		}
	}
}

func expectedAim(w uint32, place int) (uint32, api.Errno) {
	i := expectedIns(w)
	if r, _ := rowOf(i.Op); !r.has("P") {
		return 0, api.ErrIns
	}
	if place < 0 || place >= places {
		return 0, api.ErrField
	}
	return w - uint32(i.N) + uint32(place), api.OK
}

func TestAimByHand(t *testing.T) {
	for _, c := range []struct {
		w     uint32
		place int
		want  uint32
		e     api.Errno
	}{
		{0x78000005, 7, 0x78000007, api.OK},
		{0x78003FFF, 0, 0x78000000, api.OK},
		{0x80083FFF, 1, 0x80080001, api.OK},
		{0xA1003FFF, 0, 0xA1000000, api.OK},
		{0x88000001, places - 1, 0x88003FFF, api.OK},
		{0x88000001, places, 0, api.ErrField},
		{0x88000001, -1, 0, api.ErrField},
		{0x18918000, 7, 0, api.ErrIns},
		{0x18918000, -1, 0, api.ErrIns}, // both errors apply: ErrIns is named first
		{0x08807FFF, 7, 0, api.ErrIns},  // a Set's N is no place
		{0x78004000, 7, 0, api.ErrIns},
	} {
		if w, e := isa.Aim(c.w, c.place); w != c.want || e != c.e {
			t.Errorf("P2.5: Aim(%#x, %d) is %#x, %d; not %#x, %d", c.w, c.place, w, e, c.want, c.e)
		}
	}
}
