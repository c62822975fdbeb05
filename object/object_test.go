package object_test

import (
	"math"
	"reflect"
	"slices"
	"strings"
	"testing"

	"pleat/api"
	"pleat/object"
)

const (
	firstBytes = "abcdefghijklmnopqrstuvwxyzABCDEFGHIJKLMNOPQRSTUVWXYZ_"
	laterBytes = firstBytes + "0123456789."
)

// Words are made by sums here, so that the tests know nothing of how package isa makes them.
func jump(n int) uint32       { return uint32(15*134217728 + n) }
func zero(a, n int) uint32    { return uint32(16*134217728 + a*524288 + n) }
func call(n int) uint32       { return uint32(17*134217728 + n) }
func place(d, n int) uint32   { return uint32(20*134217728 + d*8388608 + n) }
func set(d, n int) uint32     { return uint32(1*134217728 + d*8388608 + n) }
func load(d, a, n int) uint32 { return uint32(11*134217728 + d*8388608 + a*524288 + n) }

const (
	trap = uint32(0)
	halt = uint32(0xA8000000)
)

// sample tells an object that may be: symbols of each kind, relocations in each op that has a target, targets of its own.
func sample() api.Object {
	return api.Object{
		Name:   "main",
		Code:   []uint32{set(1, 5), call(0), zero(2, 0), place(3, 0), jump(0), jump(6), halt},
		DataAt: 8,
		Data:   []int64{1, -1, 1 << 40},
		Symbols: []api.Symbol{
			{Name: "f", Kind: api.Wanted},
			{Name: "here", Kind: api.Local, At: 2},
			{Name: "start", Kind: api.Global, At: 0},
			{Name: "end", Kind: api.Weak, At: 7},
		},
		Relocs: []api.Reloc{{At: 1, Sym: 0}, {At: 2, Sym: 1}, {At: 3, Sym: 3}, {At: 4, Sym: 2}},
	}
}

func check(t *testing.T, what string, o api.Object, e api.Errno, number int) {
	t.Helper()
	if gotE, got := object.Check(o); gotE != e || got != number {
		t.Errorf("%s: Check is %d, %d; not %d, %d", what, gotE, got, e, number)
	}
}

func TestNameLengths(t *testing.T) {
	for length := 0; length <= 300; length++ {
		want := length >= 1 && length <= 24
		for _, first := range "aZ_" {
			s := ""
			if length > 0 {
				s = string(first) + strings.Repeat("9", length-1)
			}
			if object.Name(s) != want {
				t.Errorf("P3.1: %q of %d bytes: %v", s, length, !want)
			}
		}
	}
}

func TestNameBytes(t *testing.T) {
	for c := 0; c < 256; c++ {
		one := string([]byte{byte(c)})
		first := strings.Contains(firstBytes, one)
		later := strings.Contains(laterBytes, one)
		for _, x := range []struct {
			s    string
			want bool
		}{
			{one, first},
			{one + "a", first},
			{one + strings.Repeat("b", 23), first},
			{"a" + one, later},
			{"_" + one + "z", later},
			{"Q" + strings.Repeat(".", 11) + one + strings.Repeat("0", 11), later},
			{strings.Repeat("c", 23) + one, later},
		} {
			if object.Name(x.s) != x.want {
				t.Errorf("P3.1: %q: %v", x.s, !x.want)
			}
		}
	}
}

func TestNameExamples(t *testing.T) {
	for s, want := range map[string]bool{
		"_a.b": true, "9": false, "": false, strings.Repeat("x", 25): false, strings.Repeat("x", 24): true,
		"_": true, "a": true, "Z": true, ".": false, "a.": true, "__": true, "a b": false, " a": false, "a\n": false,
		"\u00e9": false, "a\u00e9": false, "a\x00": false, "\u017f": false, "\u212a": false, "\u0663": false, "a\u0663": false,
	} {
		if object.Name(s) != want {
			t.Errorf("P3.1: %q: %v", s, !want)
		}
	}
}

func TestCheckExamples(t *testing.T) {
	caller := func(word uint32, relocs ...api.Reloc) api.Object {
		return api.Object{Name: "main", Code: []uint32{set(1, 5), word, halt}, Symbols: []api.Symbol{{Name: "f", Kind: api.Wanted}}, Relocs: relocs}
	}
	check(t, "P3.2: a call of what is wanted", caller(call(0), api.Reloc{At: 1}), api.OK, 0)
	check(t, "P3.2: call 1", caller(call(1), api.Reloc{At: 1}), api.ErrReloc, 0)
	check(t, "P3.2: relocation 3, 0", caller(call(0), api.Reloc{At: 3}), api.ErrReloc, 0)
	check(t, "P3.2: relocation 1, 1", caller(call(0), api.Reloc{At: 1, Sym: 1}), api.ErrReloc, 0)
	check(t, "P3.2: relocation twice", caller(call(0), api.Reloc{At: 1}, api.Reloc{At: 1}), api.ErrReloc, 1)
	check(t, "P3.2: jump 2, trap", api.Object{Name: "main", Code: []uint32{jump(2), trap}}, api.OK, 0)
	check(t, "P3.2: jump 3, trap", api.Object{Name: "main", Code: []uint32{jump(3), trap}}, api.ErrPlace, -1)

	symbols := func(s ...api.Symbol) api.Object { return api.Object{Name: "main", Symbols: s} }
	check(t, "P3.2: f twice", symbols(api.Symbol{Name: "f", Kind: api.Global}, api.Symbol{Name: "f"}), api.ErrTwice, 1)
	check(t, "P3.2: f Wanted 1", symbols(api.Symbol{Name: "f", Kind: api.Wanted, At: 1}), api.ErrPlace, 0)
	check(t, "P3.2: 7f", symbols(api.Symbol{Name: "7f"}), api.ErrName, 0)
	check(t, "P3.2: kind 4", symbols(api.Symbol{Name: "f", Kind: 4}), api.ErrKind, 0)
	check(t, "P3.2: DataAt 4096", api.Object{Name: "main", DataAt: 4096}, api.OK, 0)
	check(t, "P3.2: DataAt 4096, one word", api.Object{Name: "main", DataAt: 4096, Data: []int64{1}}, api.ErrData, -1)
}

func TestCheckName(t *testing.T) {
	for s, e := range map[string]api.Errno{"a": 0, strings.Repeat("a", 24): 0, "": api.ErrName, strings.Repeat("a", 25): api.ErrName, "9a": api.ErrName, "a-": api.ErrName} {
		o := sample()
		o.Name = s
		number := 0
		if e != api.OK {
			number = -1
		}
		check(t, "P3.2: the object's name "+s, o, e, number)
	}
	check(t, "P3.2: nothing at all", api.Object{}, api.ErrName, -1)
	check(t, "P3.2: a name alone", api.Object{Name: "a"}, api.OK, 0)
}

func TestCheckCodeLength(t *testing.T) {
	for length, e := range map[int]api.Errno{0: 0, 1: 0, 16383: 0, 16384: 0, 16385: api.ErrMany, 40000: api.ErrMany} {
		o := api.Object{Name: "a", Code: make([]uint32, length)}
		number := 0
		if e != api.OK {
			number = -1
		}
		check(t, "P3.2: a length of code", o, e, number)
	}
}

func numbered(n int) []api.Symbol {
	symbols := make([]api.Symbol, n)
	for k := range symbols {
		symbols[k].Name = "s" + strings.Repeat("x", k%20) + string(rune('0'+k/20%10)) + string(rune('0'+k/200))
	}
	return symbols
}

func TestCheckSymbolCount(t *testing.T) {
	check(t, "P3.2: 255 symbols", api.Object{Name: "a", Symbols: numbered(255)}, api.OK, 0)
	check(t, "P3.2: 256 symbols", api.Object{Name: "a", Symbols: numbered(256)}, api.OK, 0)
	check(t, "P3.2: 257 symbols", api.Object{Name: "a", Symbols: numbered(257)}, api.ErrMany, -2)
	check(t, "P3.2: 257 symbols without names", api.Object{Name: "a", Symbols: make([]api.Symbol, 257)}, api.ErrMany, -2)
	all := numbered(256)
	all[255].Name = all[0].Name
	check(t, "P3.2: the last one of 256 has the first one's name", api.Object{Name: "a", Symbols: all}, api.ErrTwice, 255)
}

func TestCheckRelocCount(t *testing.T) {
	full := func(words, relocs int) api.Object {
		o := api.Object{Name: "a", Symbols: []api.Symbol{{Name: "f", Kind: api.Wanted}}, Code: make([]uint32, words), Relocs: make([]api.Reloc, relocs)}
		for k := range o.Code {
			o.Code[k] = call(0)
		}
		for k := range o.Relocs {
			o.Relocs[k].At = k
		}
		return o
	}
	for _, words := range []int{0, 1, 3, 16384} {
		check(t, "P3.2: as many relocations as words", full(words, words), api.OK, 0)
		check(t, "P3.2: one relocation more than words", full(words, words+1), api.ErrMany, -3)
		if words > 0 {
			check(t, "P3.2: one relocation less than words", full(words, words-1), api.OK, 0)
		}
	}
}

func TestCheckData(t *testing.T) {
	for _, c := range []struct{ at, words int }{
		{0, 0}, {0, 1}, {0, 4095}, {0, 4096}, {1, 4095}, {4095, 0}, {4095, 1}, {4096, 0}, {2048, 2048},
	} {
		check(t, "P3.2: data that fits", api.Object{Name: "a", DataAt: c.at, Data: make([]int64, c.words)}, api.OK, 0)
	}
	for _, c := range []struct{ at, words int }{
		{-1, 0}, {-1, 1}, {-1, 4097}, {4097, 0}, {4097, 1}, {4096, 1}, {4095, 2}, {1, 4096}, {0, 4097}, {2048, 2049},
		{math.MinInt, 0}, {math.MinInt, 1}, {math.MaxInt, 0}, {math.MaxInt, 1}, {math.MinInt + 4096, 0},
	} {
		check(t, "P3.2: data that does not fit", api.Object{Name: "a", DataAt: c.at, Data: make([]int64, c.words)}, api.ErrData, -1)
	}
}

func TestCheckSymbolNames(t *testing.T) {
	for k := range sample().Symbols {
		for _, wrong := range []string{"", "9", ".x", "a b", strings.Repeat("n", 25)} {
			o := sample()
			o.Symbols[k].Name = wrong
			check(t, "P3.2: a symbol's name "+wrong, o, api.ErrName, k)
		}
		o := sample()
		o.Symbols[k].Name = strings.Repeat("n", 24)
		check(t, "P3.2: a symbol's name of 24 bytes", o, api.OK, 0)
	}
	for later := range sample().Symbols {
		for ahead := 0; ahead < later; ahead++ {
			o := sample()
			o.Symbols[later].Name = o.Symbols[ahead].Name
			check(t, "P3.2: a name twice", o, api.ErrTwice, later)
		}
	}
	o := sample()
	o.Symbols[0].Name, o.Symbols[1].Name, o.Symbols[2].Name = "x", "X", "main"
	check(t, "P3.2: names that are not the same, and the object's own", o, api.OK, 0)
}

func TestCheckSymbolKinds(t *testing.T) {
	for kind := math.MinInt8; kind <= math.MaxInt8; kind++ {
		o := sample()
		o.Symbols[2].Kind = int8(kind)
		if kind >= 0 && kind <= 3 {
			check(t, "P3.2: a kind", o, api.OK, 0)
		} else {
			check(t, "P3.2: no kind", o, api.ErrKind, 2)
		}
	}
}

func TestCheckSymbolPlaces(t *testing.T) {
	for k := range sample().Symbols {
		for kind := api.Local; kind <= api.Wanted; kind++ {
			for _, at := range []int{math.MinInt, -1, 0, 1, 6, 7, 8, 16384, math.MaxInt} {
				o := sample()
				o.Symbols[k].Kind, o.Symbols[k].At = kind, at
				if at == 0 || kind != api.Wanted && at >= 0 && at <= 7 {
					check(t, "P3.2: a symbol's place", o, api.OK, 0)
				} else {
					check(t, "P3.2: no symbol's place", o, api.ErrPlace, k)
				}
			}
		}
	}
	check(t, "P3.2: a symbol of no code", api.Object{Name: "a", Symbols: []api.Symbol{{Name: "f"}}}, api.OK, 0)
	check(t, "P3.2: a symbol behind no code", api.Object{Name: "a", Symbols: []api.Symbol{{Name: "f", At: 1}}}, api.ErrPlace, 0)
	all := api.Object{Name: "a", Code: make([]uint32, 16384), Symbols: []api.Symbol{{Name: "f", Kind: api.Weak, At: 16384}}}
	check(t, "P3.2: a symbol behind all code", all, api.OK, 0)
	all.Symbols[0].At++
	check(t, "P3.2: a symbol one further", all, api.ErrPlace, 0)
}

func TestCheckRelocPlaces(t *testing.T) {
	for _, at := range []int{math.MinInt, -1, 7, 8, math.MaxInt} {
		for k := range sample().Relocs {
			o := sample()
			o.Relocs[k].At = at
			check(t, "P3.2: a relocation outside", o, api.ErrReloc, k)
		}
	}
	ends := api.Object{Name: "a", Code: []uint32{jump(0), trap, call(0)}, Symbols: []api.Symbol{{Name: "f"}}, Relocs: []api.Reloc{{At: 0}, {At: 2}}}
	check(t, "P3.2: relocations at the first and the last place", ends, api.OK, 0)
	ends.Relocs[0], ends.Relocs[1] = ends.Relocs[1], ends.Relocs[0]
	check(t, "P3.2: relocations that fall", ends, api.ErrReloc, 1)
	ends.Relocs[1].At = 2
	check(t, "P3.2: a relocation twice", ends, api.ErrReloc, 1)
}

func TestCheckRelocSymbols(t *testing.T) {
	for k := range sample().Relocs {
		for _, sym := range []int{math.MinInt, -1, 4, 5, math.MaxInt} {
			o := sample()
			o.Relocs[k].Sym = sym
			check(t, "P3.2: a relocation of no symbol", o, api.ErrReloc, k)
		}
		for sym := 0; sym < 4; sym++ {
			o := sample()
			o.Relocs[k].Sym = sym
			check(t, "P3.2: a relocation of a symbol", o, api.OK, 0)
		}
	}
	check(t, "P3.2: a relocation without symbols", api.Object{Name: "a", Code: []uint32{jump(0)}, Relocs: make([]api.Reloc, 1)}, api.ErrReloc, 0)
}

// targetless are words of each op that has no target, and words that are no instruction.
func targetless() []uint32 {
	words := []uint32{set(1, 0), set(0, 16383), load(1, 2, 0), load(1, 2, 9000)}
	for _, op := range []uint32{0, 2, 3, 4, 5, 6, 7, 8, 9, 10, 12, 13, 14, 18, 19, 21} {
		words = append(words, op<<27)
	}
	for op := uint32(22); op < 32; op++ {
		words = append(words, op<<27, op<<27+9000)
	}
	// A Jump, Zero, Call or Place with a bit that it does not have, or an N that is no place.
	return append(words, 1, jump(0)+1<<15, jump(9000)+1<<19, jump(0)+1<<23, zero(1, 9000)+1<<15, zero(1, 0)+1<<23,
		call(0)+1<<22, call(9000)+1<<26, place(1, 0)+1<<15, place(1, 9000)+1<<19, jump(0)+1<<14, zero(1, 0)+1<<14, call(9000)+1<<14, place(1, 16383)+1<<14)
}

func TestCheckRelocWords(t *testing.T) {
	one := func(w uint32) api.Object {
		return api.Object{Name: "a", Code: []uint32{w, trap, trap}, Symbols: []api.Symbol{{Name: "f"}}, Relocs: []api.Reloc{{At: 0}}}
	}
	for _, w := range []uint32{jump(0), call(0), zero(0, 0), zero(15, 0), place(0, 0), place(15, 0)} {
		check(t, "P3.2: a word to relocate", one(w), api.OK, 0)
		check(t, "P3.2: a word with the target 1", one(w+1), api.ErrReloc, 0)
		check(t, "P3.2: a word with the target 3", one(w+3), api.ErrReloc, 0)
		check(t, "P3.2: a word with the target 16383", one(w+16383), api.ErrReloc, 0)
	}
	for _, w := range targetless() {
		check(t, "P3.2: a word without a target is relocated", one(w), api.ErrReloc, 0)
	}
}

func TestCheckTargets(t *testing.T) {
	for _, word := range []func(n int) uint32{jump, call, func(n int) uint32 { return zero(3, n) }, func(n int) uint32 { return place(4, n) }} {
		for k := 0; k < 5; k++ {
			o := api.Object{Name: "a", Code: []uint32{trap, trap, trap, trap, trap}}
			for n, e := range map[int]api.Errno{0: 0, 1: 0, 4: 0, 5: 0, 6: api.ErrPlace, 16383: api.ErrPlace} {
				o.Code[k] = word(n)
				number := 0
				if e != api.OK {
					number = -1 - k
				}
				check(t, "P3.2: a target", o, e, number)
			}
			o.Code[4] = jump(9)
			o.Code[k] = word(6)
			check(t, "P3.2: the first of two targets beyond", o, api.ErrPlace, -1-k)
		}
	}
	long := api.Object{Name: "a", Code: make([]uint32, 16384)}
	long.Code[16383] = jump(16383)
	check(t, "P3.2: the farthest target", long, api.OK, 0)
	long.Code = long.Code[1:]
	check(t, "P3.2: the farthest target at the end", long, api.OK, 0)
	long.Code = long.Code[1:]
	check(t, "P3.2: the farthest target beyond the end", long, api.ErrPlace, -16382)
}

func TestCheckWordsWithoutTargets(t *testing.T) {
	for _, w := range targetless() {
		check(t, "What follows: a word without a target", api.Object{Name: "a", Code: []uint32{w}}, api.OK, 0)
	}
	check(t, "What follows: all of them", api.Object{Name: "a", Code: targetless()}, api.OK, 0)
}

// fault is one thing that can be wrong with the sample, and what Check tells then.
type fault struct {
	what   string
	turn   func(o *api.Object)
	e      api.Errno
	number int
}

// faults stand in the order in which the chapter asks; turns may be made one behind the other.
func faults() []fault {
	symbol := func(k int, turn func(s *api.Symbol)) func(*api.Object) {
		return func(o *api.Object) { turn(&o.Symbols[k]) }
	}
	return []fault{
		{"no name", func(o *api.Object) { o.Name = "" }, api.ErrName, -1},
		{"much code", func(o *api.Object) { o.Code = append(o.Code, make([]uint32, 16384)...) }, api.ErrMany, -1},
		{"many symbols", func(o *api.Object) { o.Symbols = append(o.Symbols, numbered(256)...) }, api.ErrMany, -2},
		{"many relocations", func(o *api.Object) { o.Relocs = append(o.Relocs, make([]api.Reloc, len(o.Code))...) }, api.ErrMany, -3},
		{"data beyond", func(o *api.Object) { o.DataAt = 4094 }, api.ErrData, -1},
		{"name of 1", symbol(1, func(s *api.Symbol) { s.Name = "1" }), api.ErrName, 1},
		{"twice 2", symbol(2, func(s *api.Symbol) { s.Name = "f" }), api.ErrTwice, 2},
		{"kind of 2", symbol(2, func(s *api.Symbol) { s.Kind = -1 }), api.ErrKind, 2},
		{"place of 2", symbol(2, func(s *api.Symbol) { s.At = -1 }), api.ErrPlace, 2},
		{"name of 3", symbol(3, func(s *api.Symbol) { s.Name = "a-b" }), api.ErrName, 3},
		{"kind of 3", symbol(3, func(s *api.Symbol) { s.Kind = 4 }), api.ErrKind, 3},
		{"place of 3", symbol(3, func(s *api.Symbol) { s.At = 1 << 20 }), api.ErrPlace, 3},
		{"relocation 0", func(o *api.Object) { o.Relocs[0].Sym = -1 }, api.ErrReloc, 0},
		{"relocation 2", func(o *api.Object) { o.Code[3] = halt }, api.ErrReloc, 2},
		{"relocation 3", func(o *api.Object) { o.Relocs[3].At = 3 }, api.ErrReloc, 3},
		{"target of 0", func(o *api.Object) { o.Code[0] = jump(8) }, api.ErrPlace, -1},
		{"target of 5", func(o *api.Object) { o.Code[5] = call(16383) }, api.ErrPlace, -6},
	}
}

func TestCheckOneFault(t *testing.T) {
	check(t, "P3.2: the sample", sample(), api.OK, 0)
	for _, f := range faults() {
		o := sample()
		f.turn(&o)
		check(t, "P3.2: "+f.what, o, f.e, f.number)
	}
}

func TestCheckTwoFaults(t *testing.T) {
	all := faults()
	for i, first := range all {
		for _, second := range all[i+1:] {
			o := sample()
			first.turn(&o)
			second.turn(&o)
			check(t, "P3.2: "+first.what+" and "+second.what, o, first.e, first.number)
		}
		o := sample()
		for _, f := range all[i:] {
			f.turn(&o)
		}
		check(t, "P3.2: "+first.what+" and all behind it", o, first.e, first.number)
	}
}

func TestCheckTwoFaultsInOneSymbol(t *testing.T) {
	for _, c := range []struct {
		s api.Symbol
		e api.Errno
	}{
		{api.Symbol{Name: "", Kind: 4, At: 99}, api.ErrName},
		{api.Symbol{Name: "", Kind: 4}, api.ErrName},
		{api.Symbol{Name: "", At: 99}, api.ErrName},
		{api.Symbol{Name: "f", Kind: 4, At: 99}, api.ErrTwice},
		{api.Symbol{Name: "f", Kind: 4}, api.ErrTwice},
		{api.Symbol{Name: "f", At: 99}, api.ErrTwice},
		{api.Symbol{Name: "x", Kind: 4, At: 99}, api.ErrKind},
		{api.Symbol{Name: "x", Kind: 3, At: 99}, api.ErrPlace},
	} {
		o := sample()
		o.Symbols[3] = c.s
		check(t, "P3.2: a symbol with several faults", o, c.e, 3)
	}
}

// toss is a row of numbers that look tossed, and are the same in each run.
type toss uint64

func (t *toss) below(n int) int {
	*t = *t*6364136223846793005 + 1442695040888963407
	return int(*t>>33) % n
}

func oneOf[T any](t *toss, from ...T) T { return from[t.below(len(from))] }

// tossed tells a small object that is often near to one that may be.
func tossed(t *toss) api.Object {
	o := api.Object{Name: oneOf(t, "a", "a", "a", "b.c", "_", "9"), DataAt: oneOf(t, 0, 0, 3, 4095, 4096, 4097), Data: make([]int64, t.below(3))}
	words := t.below(5)
	for range words {
		n := oneOf(t, 0, 0, 0, 1, words, words+t.below(2))
		o.Code = append(o.Code, oneOf(t, jump(n), call(n), zero(n, n), place(n, n), jump(n), call(n), set(1, 9), halt, 1))
	}
	for range t.below(4) {
		o.Symbols = append(o.Symbols, api.Symbol{Name: oneOf(t, "a", "b", "c", "d", "e", "f", "g", "h", "."), Kind: int8(oneOf(t, 0, 1, 2, 3, 3, 4*t.below(2))), At: oneOf(t, 0, 0, 0, words, words+t.below(2), -t.below(2))})
	}
	for k := range words {
		if t.below(2) == 0 {
			o.Relocs = append(o.Relocs, api.Reloc{At: oneOf(t, k, k, k, k, k, t.below(7)-1), Sym: oneOf(t, 0, 0, t.below(len(o.Symbols)+1), t.below(7)-1)})
		}
	}
	if t.below(20) == 0 {
		o.Relocs = append(o.Relocs, make([]api.Reloc, words)...)
	}
	return o
}

type verdict struct {
	e      api.Errno
	number int
}

// targetOf tells the target of a word by a division; -1, if it has none.
func targetOf(w uint32) int {
	n, regs, op := int(w%32768), w/32768%4096, w/134217728
	free := map[uint32]uint32{15: 1, 16: 16, 17: 1, 20: 16}[op] // how many registers may stand beside N
	if free == 0 || n >= 16384 {
		return -1
	}
	for r := uint32(0); r < free; r++ {
		if op == 16 && regs == r*16 || op != 16 && regs == r*256 {
			return n
		}
	}
	return -1
}

// allFaults tells everything that the chapter finds wrong with o, in its order.
func allFaults(o api.Object) (all []verdict) {
	add := func(is bool, e api.Errno, number int) {
		if is {
			all = append(all, verdict{e, number})
		}
	}
	inside := func(k, from, to int) bool { return from <= k && k <= to }
	add(!object.Name(o.Name), api.ErrName, -1)
	add(len(o.Code) > 16384, api.ErrMany, -1)
	add(len(o.Symbols) > 256, api.ErrMany, -2)
	add(len(o.Relocs) > len(o.Code), api.ErrMany, -3)
	add(!inside(o.DataAt, 0, 4096) || !inside(o.DataAt+len(o.Data), 0, 4096), api.ErrData, -1)
	for k, s := range o.Symbols {
		add(!object.Name(s.Name), api.ErrName, k)
		add(slices.ContainsFunc(o.Symbols[:k], func(other api.Symbol) bool { return other.Name == s.Name }), api.ErrTwice, k)
		add(!inside(int(s.Kind), 0, 3), api.ErrKind, k)
		add(!inside(s.At, 0, len(o.Code)) || s.Kind == 3 && s.At != 0, api.ErrPlace, k)
	}
	for k, r := range o.Relocs {
		wrong := !inside(r.At, 0, len(o.Code)-1) || !inside(r.Sym, 0, len(o.Symbols)-1) || k > 0 && r.At <= o.Relocs[k-1].At
		add(wrong || targetOf(o.Code[r.At]) != 0, api.ErrReloc, k)
	}
	for k, w := range o.Code {
		named := slices.ContainsFunc(o.Relocs, func(r api.Reloc) bool { return r.At == k })
		add(!named && targetOf(w) > len(o.Code), api.ErrPlace, -1-k)
	}
	return all
}

func TestCheckTossedObjects(t *testing.T) {
	var dice toss = 3
	told := map[verdict]int{}
	for range 200000 {
		o := tossed(&dice)
		want := verdict{}
		if all := allFaults(o); len(all) > 0 {
			want = all[0]
		}
		told[want]++
		if e, number := object.Check(o); (verdict{e, number}) != want {
			t.Fatalf("P3.2: %+v: %d, %d; not %v", o, e, number, want)
		}
		if want.e == api.OK {
			findsAll(t, o)
		}
	}
	for _, must := range []verdict{{}, {api.ErrName, -1}, {api.ErrMany, -3}, {api.ErrData, -1}, {api.ErrName, 2}, {api.ErrTwice, 1}, {api.ErrKind, 0}, {api.ErrPlace, 1}, {api.ErrReloc, 0}, {api.ErrReloc, 2}, {api.ErrPlace, -1}, {api.ErrPlace, -4}} {
		if told[must] < 10 {
			t.Errorf("the tossed objects have %v only %d times: the test is weak", must, told[must])
		}
	}
}

// findsAll holds for an object that may be: each symbol and each relocation is found by what it is of.
func findsAll(t *testing.T, o api.Object) {
	t.Helper()
	for k, s := range o.Symbols {
		if got := object.Of(o, s.Name); got != k {
			t.Errorf("What follows: Of of the symbol %d is %d", k, got)
		}
	}
	for k, r := range o.Relocs {
		if got := object.At(o, r.At); got != k {
			t.Errorf("What follows: At of the relocation %d is %d", k, got)
		}
	}
}

func TestFindsInObjectThatMayBe(t *testing.T) {
	o := sample()
	findsAll(t, o)
	for _, name := range []string{"", "F", "her", "here_", "main", "g", strings.Repeat("f", 100)} {
		if got := object.Of(o, name); got != -1 {
			t.Errorf("P3.3: Of %q is %d", name, got)
		}
	}
	for _, at := range []int{math.MinInt, -2, -1, 0, 5, 6, 7, 8, math.MaxInt} {
		if got := object.At(o, at); got != -1 {
			t.Errorf("P3.3: At %d is %d", at, got)
		}
	}
}

func TestFindsInObjectThatMayNotBe(t *testing.T) {
	o := api.Object{
		Symbols: []api.Symbol{{Name: "9", Kind: 77}, {Name: "f", At: -4}, {Name: "f"}, {Name: ""}, {Name: "9"}, {Name: strings.Repeat("l", 30)}, {Name: "\u00e9"}},
		Relocs:  []api.Reloc{{At: 50, Sym: 3}, {At: -1}, {At: 50}, {At: 0, Sym: -7}, {At: -1}, {At: math.MaxInt}, {At: math.MinInt}},
	}
	for name, want := range map[string]int{"9": 0, "f": 1, "": 3, strings.Repeat("l", 30): 5, "\u00e9": 6, strings.Repeat("l", 29): -1, "g": -1} {
		if got := object.Of(o, name); got != want {
			t.Errorf("P3.3: Of %q is %d, not %d", name, got, want)
		}
	}
	for at, want := range map[int]int{50: 0, -1: 1, 0: 3, math.MaxInt: 5, math.MinInt: 6, 1: -1, 3: -1} {
		if got := object.At(o, at); got != want {
			t.Errorf("P3.3: At %d is %d, not %d", at, got, want)
		}
	}
	if object.Of(api.Object{}, "") != -1 || object.At(api.Object{}, 0) != -1 {
		t.Errorf("P3.3: something is found in an object without anything")
	}
}

func TestFindsInLargeObject(t *testing.T) {
	o := api.Object{Symbols: numbered(1000), Relocs: make([]api.Reloc, 40000)}
	for k := range o.Relocs {
		o.Relocs[k].At = k / 2
	}
	o.Symbols = append(o.Symbols, api.Symbol{Name: "last"})
	if got := object.Of(o, "last"); got != 1000 {
		t.Errorf("P3.3: Of the last symbol is %d", got)
	}
	if got := object.At(o, 19999); got != 39998 {
		t.Errorf("P3.3: At of the last place is %d", got)
	}
}

func TestEmptyIsNil(t *testing.T) {
	o := api.Object{Name: "a", Code: []uint32{}, Data: []int64{}, Symbols: []api.Symbol{}, Relocs: []api.Reloc{}}
	check(t, "R4: empty lists", o, api.OK, 0)
	if object.Of(o, "a") != -1 || object.At(o, 0) != -1 {
		t.Errorf("R4: something is found in empty lists")
	}
}

// withRoom copies a list, with three more elements of its own behind its end.
func withRoom[T any](list []T, more T) []T {
	return append(append(make([]T, 0, len(list)+3), list...), more, more, more)[:len(list)]
}

func whole(o api.Object) api.Object {
	o.Code, o.Data, o.Symbols, o.Relocs = o.Code[:cap(o.Code)], o.Data[:cap(o.Data)], o.Symbols[:cap(o.Symbols)], o.Relocs[:cap(o.Relocs)]
	return o
}

func roomy(o api.Object) api.Object {
	o.Code, o.Data = withRoom(o.Code, 77), withRoom(o.Data, 88)
	o.Symbols, o.Relocs = withRoom(o.Symbols, api.Symbol{Name: "room"}), withRoom(o.Relocs, api.Reloc{At: 99})
	return o
}

func TestObjectStays(t *testing.T) {
	objects := []api.Object{sample()}
	for _, f := range faults() {
		o := sample()
		f.turn(&o)
		objects = append(objects, o)
	}
	for k, o := range objects {
		given, kept := roomy(o), roomy(o)
		object.Check(given)
		object.Of(given, "room")
		object.Of(given, "here")
		object.At(given, 99)
		object.At(given, 3)
		if !reflect.DeepEqual(whole(given), whole(kept)) {
			t.Errorf("R5: the object %d was changed", k)
		}
	}
}

func TestChecksKnowNothingOfEachOther(t *testing.T) {
	relocated := api.Object{Name: "a", Code: []uint32{jump(0)}, Symbols: []api.Symbol{{Name: "f"}}, Relocs: make([]api.Reloc, 1)}
	beyond := api.Object{Name: "a", Code: []uint32{jump(2)}, Symbols: []api.Symbol{{Name: "f"}}}
	for range 3 {
		check(t, "R6: a relocation at 0", relocated, api.OK, 0)
		check(t, "R6: a target beyond at 0", beyond, api.ErrPlace, -1)
	}
}
