package asm_test

import (
	"fmt"
	"math"
	"slices"
	"strings"
	"testing"

	"pleat/api"
	"pleat/asm"
)

// op is what the document's table says of one: its number, and its fields by their letters; P is an N that is a place.
type op struct {
	number int
	fields string
}

var ops = map[string]op{
	"trap": {0, ""}, "set": {1, "DN"}, "move": {2, "DA"}, "add": {3, "DAB"}, "sub": {4, "DAB"}, "mul": {5, "DAB"},
	"and": {6, "DAB"}, "or": {7, "DAB"}, "xor": {8, "DAB"}, "less": {9, "DAB"}, "same": {10, "DAB"}, "load": {11, "DAN"},
	"store": {12, "ABN"}, "in": {13, "D"}, "out": {14, "AN"}, "jump": {15, "P"}, "zero": {16, "AP"}, "call": {17, "P"},
	"calls": {18, "A"}, "go": {19, "A"}, "place": {20, "DP"}, "halt": {21, ""},
}

// word makes an instruction's word by sums, so that the tests know nothing of how package isa makes it.
func word(name string, fields ...int) uint32 {
	o := ops[name]
	w := o.number * 134217728
	for k, f := range o.fields {
		switch f {
		case 'D':
			w += fields[k] * 8388608
		case 'A':
			w += fields[k] * 524288
		case 'B':
			w += fields[k] * 32768
		default:
			w += (fields[k] + 32768) % 32768
		}
	}
	return uint32(w)
}

// lines tells a source in which each / is a line's end.
func lines(s string) []byte { return []byte(strings.ReplaceAll(s, "/", "\n")) }

func same(a, b api.Object) bool {
	return a.Name == b.Name && a.DataAt == b.DataAt && slices.Equal(a.Code, b.Code) && slices.Equal(a.Data, b.Data) &&
		slices.Equal(a.Symbols, b.Symbols) && slices.Equal(a.Relocs, b.Relocs)
}

func short(src []byte) string {
	if len(src) > 200 {
		return fmt.Sprintf("%q .. of %d bytes", src[:200], len(src))
	}
	return fmt.Sprintf("%q", src)
}

func reads(t *testing.T, what string, src []byte, want ...api.Object) {
	t.Helper()
	if l, e, line := asm.Read(src); e != api.OK || line != 0 || !slices.EqualFunc(l, want, same) {
		t.Errorf("%s: %s: Read is %v, %d at %d; not %v", what, short(src), l, e, line, want)
	}
}

func refuses(t *testing.T, what string, src []byte, e api.Errno, line int) {
	t.Helper()
	if l, gotE, got := asm.Read(src); gotE != e || got != line || len(l) != 0 {
		t.Errorf("%s: %s: Read is %v, %d at %d; not nothing, %d at %d", what, short(src), l, gotE, got, e, line)
	}
}

// refusal is a source that is refused.
type refusal struct {
	src  string
	e    api.Errno
	line int
}

func refusesAll(t *testing.T, what string, list ...refusal) {
	t.Helper()
	for _, r := range list {
		refuses(t, what, lines(r.src), r.e, r.line)
	}
}

// halting tells an object a that halts, and has these symbols.
func halting(symbols ...api.Symbol) api.Object {
	return api.Object{Name: "a", Code: []uint32{word("halt")}, Symbols: symbols}
}

func TestExamples(t *testing.T) {
	reads(t, "P5.1", lines("object a/wanted f/global main/main: call f/halt"), api.Object{
		Name: "a", Code: []uint32{0x88000000, 0xA8000000},
		Symbols: []api.Symbol{{Name: "f", Kind: api.Wanted}, {Name: "main", Kind: api.Global, At: 0}}, Relocs: []api.Reloc{{At: 0, Sym: 0}},
	})
	reads(t, "P5.1", lines("object a/x: zero 1 x/jump 0 # round"), api.Object{
		Name: "a", Code: []uint32{0x80080000, 0x78000000}, Symbols: []api.Symbol{{Name: "x"}}, Relocs: []api.Reloc{{At: 0, Sym: 0}},
	})
	reads(t, "P5.1", lines("object a/data 4 -1 2/word 4294967295"), api.Object{Name: "a", Code: []uint32{math.MaxUint32}, DataAt: 4, Data: []int64{-1, 2}})
	refusesAll(t, "P5.1",
		refusal{"halt", api.ErrParse, 1}, refusal{"object a/hlt", api.ErrParse, 2},
		refusal{"object a/set 1", api.ErrParse, 2}, refusal{"object a/set 1 05", api.ErrParse, 2},
		refusal{"object a/call g/object b", api.ErrUndefined, 2}, refusal{"object a/global g/halt", api.ErrUndefined, 2},
		refusal{"object a/x:/x: halt", api.ErrTwice, 3}, refusal{"object a/set 16 1", api.ErrField, 2},
		refusal{"object 9", api.ErrName, 1}, refusal{"object a/jump 1-", api.ErrName, 2}, refusal{"object a/global f 3", api.ErrPlace, 1},
	)
}

func TestNothing(t *testing.T) {
	reads(t, "P5.1: nothing", nil)
	reads(t, "R4: nothing", []byte{})
	for _, s := range []string{"/", "///", " ", "\t", "\r", "\r/", " \t\r / \t/\r\r", "#", "# object a", "#/#", " # 9: hlt/\t##/", "#:", "/ /#x/"} {
		reads(t, "P5.1: nothing but remarks and blanks", lines(s))
	}
	reads(t, "P5.1: an object of nothing", lines("object a"), api.Object{Name: "a"})
}

func TestLineEnds(t *testing.T) {
	want := halting(api.Symbol{Name: "x"})
	for _, s := range []string{
		"object a/x: halt", "object a/x: halt/", "object a\r/x: halt\r/", "object a\r/x: halt\r", "object a/x: halt//", "object a / x:\thalt\t ",
		"/object a//x:/halt", "# one/\t object \t a # two/\r\r/x:#three/halt#four", "object a#b/x:#/halt#/", "object a#/#/x: # : halt/halt",
	} {
		reads(t, "P5.1: lines and blanks", lines(s), want)
	}
	// Just 10 ends a line, just 9, 13 and 32 are blanks.
	for c := range 256 {
		s := "object a\nx:" + string([]byte{byte(c)}) + "halt"
		switch c {
		case '\n', '\t', '\r', ' ':
			reads(t, "P5.1: the byte between words", []byte(s), want)
		case '#':
			reads(t, "P5.1: a remark without a blank", []byte(s), api.Object{Name: "a", Symbols: []api.Symbol{{Name: "x"}}})
		default:
			refuses(t, "P5.1: no blank", []byte(s), api.ErrParse, 2)
		}
		behind := "object a\nhalt" + string([]byte{byte(c)}) + "\nx:"
		at := api.Symbol{Name: "x", At: 1}
		switch c {
		case '\n', '\t', '\r', ' ', '#':
			reads(t, "P5.1: the byte behind a word", []byte(behind), halting(at))
		case ':':
			reads(t, "P5.1: a label of an op's name", []byte(behind), api.Object{Name: "a", Symbols: []api.Symbol{{Name: "halt"}, {Name: "x"}}})
		default:
			refuses(t, "P5.1: a byte that makes another word", []byte(behind), api.ErrParse, 2)
		}
	}
	for _, blank := range []string{"\u00a0", "\u2003", "\u0085", "\v", "\f", "\xa0", "\xc0\xa0", "\xe2", "\xe2\x80"} {
		refuses(t, "P5.1: no blank", []byte("object a\nset 1"+blank+"2"), api.ErrParse, 2)
		refuses(t, "P5.1: no blank", []byte("object a\nhalt"+blank+" # x"), api.ErrParse, 2)
		refuses(t, "P5.1: no line's end", []byte("object a"+blank), api.ErrName, 1)
		reads(t, "P5.1: a remark of any bytes", []byte("object a#"+blank+"\n#"+blank+"\nx: halt #"+blank), want)
	}
}

func TestSourceAtItsLimit(t *testing.T) {
	for _, s := range []string{"object a\nhalt\n#", "object a\nhalt\n ", "object a\nhalt\n\n"} {
		for _, over := range []int{0, 1, 2, 1 << 16} {
			src := []byte(s + strings.Repeat(s[len(s)-1:], 1<<16+over-len(s)))
			if over == 0 {
				reads(t, "P5.1: 2^16 bytes", src, halting())
			} else {
				refuses(t, "P5.1: more than 2^16 bytes", src, api.ErrMany, 0)
			}
		}
	}
	refuses(t, "P5.1: the last line of 2^16 bytes", []byte(strings.Repeat("\n", 1<<16-1)+"x"), api.ErrParse, 1<<16)
	refuses(t, "P5.1: ErrMany ahead of all else", []byte("hlt\n"+strings.Repeat("\n", 1<<16)), api.ErrMany, 0)
	refuses(t, "P5.1: one byte more, a line's end", []byte(strings.Repeat("\n", 1<<16+1)), api.ErrMany, 0)
}

// anyStatement tells a statement of each kind, with words for all that it has.
func anyStatement() []string {
	list := []string{"object b", "data 0", "local f 0", "global f 0", "weak f 0", "wanted f", "word 0"}
	for name, o := range ops {
		list = append(list, name+strings.Repeat(" 0", len(o.fields)))
	}
	return list
}

func TestTooFewAndTooManyWords(t *testing.T) {
	for _, s := range anyStatement() {
		words := strings.Fields(s)
		if _, e, line := asm.Read([]byte("object a\n" + s)); e != api.OK {
			t.Errorf("P5.1: %s: %d at %d", s, e, line)
		}
		for count := range words {
			few := strings.Join(words[:count], " ")
			if count == 0 || count == 2 && len(words) == 3 && words[1] == "f" {
				continue
			}
			refuses(t, "P5.1 2: too few words", []byte("object a\n"+few), api.ErrParse, 2)
			refuses(t, "P5.1 2: too few words behind a label", []byte("object a\n\nx: "+few), api.ErrParse, 3)
		}
		if words[0] == "data" {
			continue
		}
		for _, more := range []string{" 0", " f", " x:", " 0 0 0", " halt", " -", " 9"} {
			refuses(t, "P5.1 2: too many words", []byte("object a\n"+s+more), api.ErrParse, 2)
		}
	}
	refusesAll(t, "P5.1 2",
		refusal{"object", api.ErrParse, 1}, refusal{"object a b", api.ErrParse, 1}, refusal{"object 9 9", api.ErrParse, 1},
		refusal{"object a/data", api.ErrParse, 2}, refusal{"object a/local 9 0 0", api.ErrParse, 2}, refusal{"object a/wanted f 0", api.ErrParse, 2},
	)
}

func TestNoSuchWord(t *testing.T) {
	for _, s := range []string{
		"hlt", "HALT", "Halt", "halt;", "Object b", "objects b", "0", "-1", "x", "=", "calls: go: 1", "label x", "data: data:", "words 1",
		"jmp 0", "call. 0", "\"halt\"", "ha lt", "//", "\\", "\x00", "halt\x00", "\xff", "\ufeffhalt", "x :", "x : halt", ": halt", "x:: :",
	} {
		refuses(t, "P5.1 2: no such word", []byte("object a\n"+s), api.ErrParse, 2)
		refuses(t, "P5.1 2: no such word of no object", []byte("\n\n"+s), api.ErrParse, 3)
	}
	refuses(t, "P5.1 2: a byte order mark", []byte("\ufeffobject a"), api.ErrParse, 1)
	for _, s := range anyStatement()[1:] {
		refuses(t, "P5.1 2: a statement of no object", []byte(s+"\nobject a"), api.ErrParse, 1)
		refuses(t, "P5.1 2: a statement of no object", []byte("# object a\n"+s), api.ErrParse, 2)
	}
}

// noNumbers are texts that R7 does not tell, or that do not fit 64 bits.
var noNumbers = []string{
	"-", "--1", "-0", "+", "+0", "+1", "00", "01", "-01", "000", "1-", "1+", "0x1", "1_0", "1.0", "1.", ".1", "1e1", "x", "0b1", "1,2", "\u0661", "1\x00", "f:",
	"9223372036854775808", "-9223372036854775809", "18446744073709551615", "18446744073709551616", "99999999999999999999", "-99999999999999999999",
	"09223372036854775807", "10000000000000000000000000000000000000000",
}

func TestNoNumbers(t *testing.T) {
	for _, n := range noNumbers {
		for _, s := range []string{
			"data %s", "data %s 1", "data 0 %s", "data 0 1 %s", "data 0 %s 1", "local f %s", "global f %s", "weak f %s", "word %s",
			"set %s 1", "set 1 %s", "move %s 1", "move 1 %s", "add 1 %s 1", "add 1 1 %s", "load 1 1 %s", "store 1 1 %s", "in %s", "out 1 %s",
			"zero %s 0", "zero %s f", "calls %s", "go %s", "place %s 0", "place %s f",
		} {
			refuses(t, "P5.1 2: no number", []byte("object a\n"+strings.Replace(s, "%s", n, 1)), api.ErrParse, 2)
		}
		for _, s := range []string{"jump %s", "zero 1 %s", "call %s", "place 1 %s"} {
			e, line := api.ErrName, 2
			if n == "x" {
				e = api.ErrUndefined
			}
			refuses(t, "P5.1 3: neither a number nor a name", []byte("object a\n"+strings.Replace(s, "%s", n, 1)), e, line)
		}
	}
}

func TestNumbersOf64Bits(t *testing.T) {
	reads(t, "P5.1: the least and the greatest", lines("object a/data 0 -9223372036854775808 9223372036854775807 0 -1 10 -10 4294967296"),
		api.Object{Name: "a", Data: []int64{math.MinInt64, math.MaxInt64, 0, -1, 10, -10, 1 << 32}})
	for _, n := range []string{"-9223372036854775808", "9223372036854775807", "4294967296", "-4294967296"} {
		refusesAll(t, "P5.1: a number of 64 bits",
			refusal{"#/object a/data " + n, api.ErrData, 2}, refusal{"#/object a/global f " + n, api.ErrPlace, 2},
			refusal{"object a/word " + n, api.ErrField, 2}, refusal{"object a/set 1 " + n, api.ErrField, 2}, refusal{"object a/set " + n + " 1", api.ErrField, 2},
			refusal{"object a/jump " + n, api.ErrField, 2}, refusal{"object a/place " + n + " f", api.ErrField, 2}, refusal{"object a/out 1 " + n, api.ErrField, 2},
		)
	}
}

func TestWordStatement(t *testing.T) {
	reads(t, "P5.1: words", lines("object a/word 0/word 1/word 2147483648/word 4294967295/word 2818572288"),
		api.Object{Name: "a", Code: []uint32{0, 1, 1 << 31, math.MaxUint32, 0xA8000000}})
	refusesAll(t, "P5.1 5", refusal{"object a/word -1", api.ErrField, 2}, refusal{"object a/word 4294967296", api.ErrField, 2})
	refuses(t, "P5.1 1: a word is an instruction whose target may not be", lines("/object a/word 2013265923"), api.ErrPlace, 2)
}

// instruction tells the line of one, with these fields.
func instruction(name string, fields []int) string {
	s := name
	for _, f := range fields {
		s += fmt.Sprint(" ", f)
	}
	return s
}

func TestEachField(t *testing.T) {
	registers := map[int]bool{0: true, 1: true, 14: true, 15: true, 16: false, 17: false, 127: false, 128: false, 255: false, 256: false, 257: false, 271: false,
		-1: false, -15: false, -16: false, -128: false, -129: false, -256: false, -255: false, 65536: false, 1 << 32: false, 1<<32 + 1: false, -1 << 32: false}
	numbers := map[int]bool{0: true, 1: true, -1: true, 255: true, 256: true, 16383: true, -16384: true, 16384: false, -16385: false, 32767: false, 32768: false, 1 << 32: false}
	places := map[int]bool{0: true, 1: true, -1: false, -16384: false, 16384: false, 32768: false, 1 << 16: false, 1 << 32: false}
	for name, o := range ops {
		for k := range o.fields {
			values := registers
			switch o.fields[k] {
			case 'N':
				values = numbers
			case 'P':
				values = places
			}
			for value, may := range values {
				fields := make([]int, len(o.fields))
				fields[k] = value
				s := instruction(name, fields)
				if may {
					reads(t, "P5.1: "+s, []byte("object a\n"+s), api.Object{Name: "a", Code: []uint32{word(name, fields...)}})
				} else {
					refuses(t, "P5.1 5: "+s, []byte("object a\n"+s), api.ErrField, 2)
				}
			}
		}
		fields := []int{7, 11, 13}[:len(o.fields)]
		if strings.HasSuffix(o.fields, "P") {
			fields[len(fields)-1] = 1
		}
		reads(t, "P5.1: the order of fields", []byte("object a\n"+instruction(name, fields)), api.Object{Name: "a", Code: []uint32{word(name, fields...)}})
	}
	refuses(t, "P5.1 1: a place that is not", lines("object a/jump 2"), api.ErrPlace, 1)
	refuses(t, "P5.1 1: the greatest place", lines("//object a/jump 16383"), api.ErrPlace, 3)
}

func TestTargets(t *testing.T) {
	reads(t, "P5.1: targets of each op", lines("object a/wanted f/jump l/zero 15 g/call f/place 3 w/l:/weak w 0/global g/g:"), api.Object{
		Name: "a", Code: []uint32{word("jump", 0), word("zero", 15, 0), word("call", 0), word("place", 3, 0)},
		Symbols: []api.Symbol{{Name: "f", Kind: api.Wanted}, {Name: "l", At: 4}, {Name: "w", Kind: api.Weak}, {Name: "g", Kind: api.Global, At: 4}},
		Relocs:  []api.Reloc{{At: 0, Sym: 1}, {At: 1, Sym: 3}, {At: 2, Sym: 0}, {At: 3, Sym: 2}},
	})
	for _, behind := range []string{"f:", "local f 0", "local f/f:", "wanted f", "weak f 1", "x: local f/f: halt"} {
		l, e, line := asm.Read(lines("object a/call f/halt/jump f/" + behind))
		if e != api.OK || len(l) != 1 || len(l[0].Relocs) != 2 || l[0].Relocs[0].At != 0 || l[0].Relocs[1].At != 2 || l[0].Symbols[l[0].Relocs[1].Sym].Name != "f" {
			t.Errorf("P5.1: a target declared later by %s: %v, %d at %d", behind, l, e, line)
		}
	}
	reads(t, "P5.1: numbers and names", lines("object a/f: jump 1/jump f/word 5/word 2013265920"), api.Object{
		Name: "a", Code: []uint32{word("jump", 1), word("jump", 0), 5, word("jump", 0)}, Symbols: []api.Symbol{{Name: "f"}}, Relocs: []api.Reloc{{At: 1, Sym: 0}},
	})
	refusesAll(t, "P5.1 1: no symbol of it",
		refusal{"object a/call f", api.ErrUndefined, 2}, refusal{"object a/halt/halt/place 1 f/", api.ErrUndefined, 4},
		refusal{"object a/f: halt/object b/call f", api.ErrUndefined, 4}, refusal{"object a/call f/object b/f: halt", api.ErrUndefined, 2},
		refusal{"object a/zero 1 g/call f/f:", api.ErrUndefined, 2}, refusal{"object a/zero 1 f/call g/f:", api.ErrUndefined, 3},
		refusal{"object a/jump a", api.ErrUndefined, 2}, refusal{"object a/jump F/f:", api.ErrUndefined, 2}, refusal{"object a/jump jump", api.ErrUndefined, 2},
		refusal{"object a/call g/call f/call g", api.ErrUndefined, 2}, refusal{"object a/halt/object b/halt/object c/call g/call f/", api.ErrUndefined, 6},
	)
}

func TestLabels(t *testing.T) {
	reads(t, "P5.1: labels", lines("object a/x:/y: halt/z:"), halting(api.Symbol{Name: "x"}, api.Symbol{Name: "y"}, api.Symbol{Name: "z", At: 1}))
	reads(t, "P5.1: labels of declarations", lines("object a/halt/global g/local l/weak w/w:/g:/halt/l:"), api.Object{
		Name: "a", Code: []uint32{word("halt"), word("halt")},
		Symbols: []api.Symbol{{Name: "g", Kind: api.Global, At: 1}, {Name: "l", At: 2}, {Name: "w", Kind: api.Weak, At: 1}},
	})
	reads(t, "P5.1: labels ahead of each statement", lines("object a/halt/b: local p/c: global q 0/d: weak r/e: wanted s/f: data 1/g: word 9/p: halt/r:"), api.Object{
		Name: "a", Code: []uint32{word("halt"), 9, word("halt")}, DataAt: 1,
		Symbols: []api.Symbol{{Name: "b", At: 1}, {Name: "p", At: 2}, {Name: "c", At: 1}, {Name: "q", Kind: api.Global}, {Name: "d", At: 1}, {Name: "r", Kind: api.Weak, At: 3},
			{Name: "e", At: 1}, {Name: "s", Kind: api.Wanted}, {Name: "f", At: 1}, {Name: "g", At: 1}},
	})
	reads(t, "P5.1: a label at the end of an object", lines("object a/x:/object b/halt/x:/y:"), api.Object{Name: "a", Symbols: []api.Symbol{{Name: "x"}}},
		api.Object{Name: "b", Code: []uint32{word("halt")}, Symbols: []api.Symbol{{Name: "x", At: 1}, {Name: "y", At: 1}}})
	reads(t, "P5.1: names that are ops' and statements' too", lines("object object/object: halt/jump: jump jump/data:"), api.Object{
		Name: "object", Code: []uint32{word("halt"), word("jump", 0)}, Symbols: []api.Symbol{{Name: "object"}, {Name: "jump", At: 1}, {Name: "data", At: 2}}, Relocs: []api.Reloc{{At: 1, Sym: 1}},
	})
	refusesAll(t, "P5.1 2: labels",
		refusal{"x: object a", api.ErrParse, 1}, refusal{"x:/object a", api.ErrParse, 1}, refusal{"x:", api.ErrParse, 1}, refusal{"#/9:", api.ErrParse, 2}, refusal{"x: halt", api.ErrParse, 1},
		refusal{"object a/x: object b", api.ErrParse, 2}, refusal{"object a/x: object 9", api.ErrParse, 2}, refusal{"object a/9: object b", api.ErrParse, 2},
		refusal{"object a/:", api.ErrParse, 2}, refusal{"object a/: halt", api.ErrParse, 2}, refusal{"object a/:/hlt", api.ErrParse, 2}, refusal{":", api.ErrParse, 1},
		refusal{"object a/x: y:", api.ErrParse, 2}, refusal{"object a/x: y: halt", api.ErrParse, 2}, refusal{"object a/x :", api.ErrParse, 2}, refusal{"object a/x:halt", api.ErrParse, 2}, refusal{"object a/halt x:", api.ErrParse, 2},
	)
	refusesAll(t, "P5.1 3: labels", refusal{"object a/9:", api.ErrName, 2}, refusal{"object a/::", api.ErrName, 2}, refusal{"object a/x:: halt", api.ErrName, 2}, refusal{"object a/-1: halt", api.ErrName, 2},
		refusal{"object a/x-: halt", api.ErrName, 2}, refusal{"object a/x:y:", api.ErrName, 2}, refusal{"object a/.: halt", api.ErrName, 2}, refusal{"object a/\u00e9:", api.ErrName, 2}, refusal{"object a/\xff:", api.ErrName, 2})
}

func TestNames(t *testing.T) {
	for _, name := range []string{"_", "A", "z9._", strings.Repeat("n", 24), "halt", "object", "_0123456789.abcdefXYZ.__"} {
		want := api.Object{Name: name, Code: []uint32{word("call", 0)}, Symbols: []api.Symbol{{Name: name, Kind: api.Weak}}, Relocs: []api.Reloc{{}}}
		reads(t, "P5.1: names", lines("object "+name+"/weak "+name+"/"+name+": call "+name), want)
	}
	for _, name := range []string{"9a", ".a", "-", "a-", "$", "a,", strings.Repeat("n", 25), "\u00e9", "a\x00", "a\v", "a:", ":", "'a'", "a\u00e9", "\x80", "a;"} {
		refuses(t, "P5.1 3: an object's name", []byte("object "+name), api.ErrName, 1)
		for _, s := range []string{"object %s", "local %s", "local %s 0", "global %s", "global %s -1", "weak %s", "weak %s 0", "wanted %s", "jump %s", "call %s", "zero 1 %s", "zero 16 %s", "place 1 %s"} {
			refuses(t, "P5.1 3: no name", []byte("object a\n"+strings.Replace(s, "%s", name, 1)), api.ErrName, 2)
			refuses(t, "P5.1 3: no name in a second object", []byte("object a\nobject b\n\n"+strings.Replace(s, "%s", name, 1)), api.ErrName, 4)
		}
		refuses(t, "P5.1 3: a label's name", []byte("object a\n"+name+": halt"), api.ErrName, 2)
	}
}

func TestTwice(t *testing.T) {
	for _, first := range []string{"x:", "local x", "local x 0", "global x", "global x 0", "weak x", "weak x 0", "wanted x"} {
		for _, second := range []string{"local x", "local x 0", "global x", "global x 0", "weak x", "weak x 0", "wanted x", "y: wanted x", "local x 99", "x: local x", "x: wanted x"} {
			refuses(t, "P5.1 4: a declaration of a symbol", lines("object a/"+first+"//"+second), api.ErrTwice, 4)
		}
		for _, second := range []string{"x:", "x: halt", "x: set 16 1", "x: local y", "x: data 0"} {
			switch first {
			case "local x", "global x", "weak x":
				if second == "x:" || second == "x: halt" {
					refuses(t, "P5.1 4: a label of a symbol that has got its place", lines("object a/"+first+"/"+second+"/x:"), api.ErrTwice, 4)
				}
			default:
				refuses(t, "P5.1 4: a label of a symbol that has a place, or is Wanted", lines("object a/"+first+"/"+second), api.ErrTwice, 3)
			}
		}
	}
	refusesAll(t, "P5.1 4",
		refusal{"object a/x: local x", api.ErrTwice, 2}, refusal{"object a/x: wanted x", api.ErrTwice, 2}, refusal{"object a/x: halt/halt/x:", api.ErrTwice, 4},
		refusal{"object a/data 1/data 1", api.ErrTwice, 3}, refusal{"object a/data 0/data 0", api.ErrTwice, 3}, refusal{"object a/data 1 2/halt/x: data 3 4", api.ErrTwice, 4},
		refusal{"object a/data 9999/data 1", api.ErrTwice, 3},
	)
	// What one object has says nothing of another one.
	reads(t, "P5.1 4: the same in two objects", lines("object a/data 1 2/x: halt/object a/data 3/x: halt"),
		api.Object{Name: "a", DataAt: 1, Data: []int64{2}, Code: []uint32{word("halt")}, Symbols: []api.Symbol{{Name: "x"}}},
		api.Object{Name: "a", DataAt: 3, Code: []uint32{word("halt")}, Symbols: []api.Symbol{{Name: "x"}}})
}

func TestUndefined(t *testing.T) {
	refusesAll(t, "P5.1 1",
		refusal{"object a/local g", api.ErrUndefined, 2}, refusal{"object a/weak g/halt", api.ErrUndefined, 2}, refusal{"object a/global g/object b", api.ErrUndefined, 2},
		refusal{"object a/global g/object b/g: halt", api.ErrUndefined, 2}, refusal{"object a/local f/local g/f: halt", api.ErrUndefined, 3}, refusal{"object a/local f/local g/g: halt", api.ErrUndefined, 2},
		refusal{"object a/x: local g/call g", api.ErrUndefined, 2}, refusal{"object a/halt/object b/halt/weak g", api.ErrUndefined, 5},
		// A target comes ahead of a declaration, on whatever line.
		refusal{"object a/call f/local g", api.ErrUndefined, 2}, refusal{"object a/local g/call f", api.ErrUndefined, 3}, refusal{"object a/local g/call g/weak h/call f/object b", api.ErrUndefined, 5},
		refusal{"object a/call g/local g", api.ErrUndefined, 3},
		// Both come ahead of what object.Check says.
		refusal{"object a/data 5000/call f", api.ErrUndefined, 3}, refusal{"object a/data 5000/global f", api.ErrUndefined, 3}, refusal{"object a/global f 9/weak g/f9:", api.ErrUndefined, 3},
	)
	reads(t, "P5.1 1: a Wanted one waits for no label", lines("object a/halt/wanted f"), halting(api.Symbol{Name: "f", Kind: api.Wanted}))
}

func TestFirstOnOneLine(t *testing.T) {
	refusesAll(t, "P5.1: 2 ahead of 3",
		refusal{"object a/9: hlt", api.ErrParse, 2}, refusal{"object a/9: set 1", api.ErrParse, 2}, refusal{"object a/: local 9", api.ErrParse, 2}, refusal{"object a/: jump 9-", api.ErrParse, 2},
		refusal{"object a/local 9 x", api.ErrParse, 2}, refusal{"object a/zero x 9-", api.ErrParse, 2}, refusal{"object a/wanted 9 9", api.ErrParse, 2}, refusal{"object a/object 9 9", api.ErrParse, 2}, refusal{"local 9", api.ErrParse, 1}, refusal{"9: object 9", api.ErrParse, 1},
	)
	refusesAll(t, "P5.1: 2 and 3 ahead of all else of a line",
		refusal{"object a/call g/hlt", api.ErrParse, 3}, refusal{"object a/call g/object", api.ErrParse, 3}, refusal{"object a/call g/object b c", api.ErrParse, 3}, refusal{"object a/call g/object 9", api.ErrName, 3}, refusal{"object a/call g/x: object b", api.ErrParse, 3},
		refusal{"object a/x:/x: hlt", api.ErrParse, 3}, refusal{"object a/x:/x: local 9", api.ErrName, 3}, refusal{"object a/x:/9: local x", api.ErrName, 3}, refusal{"object a/x:/9: set 16 1", api.ErrName, 3},
		refusal{"object a/data 1/data x", api.ErrParse, 3}, refusal{"object a/data 1/9: data 1", api.ErrName, 3}, refusal{"object a/zero 16 9-", api.ErrName, 2}, refusal{"object a/set 16 x", api.ErrParse, 2}, refusal{"object a/set 16", api.ErrParse, 2}, refusal{"object a/word -1 1", api.ErrParse, 2},
		refusal{"object a/local x/local x y", api.ErrParse, 3}, refusal{"object a/9: word -1", api.ErrName, 2},
	)
	refusesAll(t, "P5.1: the label ahead of the statement",
		refusal{"object a/x:/x: set 16 1", api.ErrTwice, 3}, refusal{"object a/x:/x: word -1", api.ErrTwice, 3}, refusal{"object a/x:/x: halt", api.ErrTwice, 3}, refusal{"object a/x: local x", api.ErrTwice, 2},
	)
}

func TestFirstOfLines(t *testing.T) {
	refusesAll(t, "P5.1: the first line's",
		refusal{"object a/set 16 1/hlt", api.ErrField, 2}, refusal{"object a/hlt/set 16 1", api.ErrParse, 2}, refusal{"object 9/hlt", api.ErrName, 1}, refusal{"object a/word -1/9:", api.ErrField, 2}, refusal{"object a/x:/x:/hlt", api.ErrTwice, 3},
	)
	refusesAll(t, "P5.1 1: what is asked where an object ends comes at that line",
		refusal{"object a/call g/set 16 1/object b", api.ErrField, 3}, refusal{"object a/call g/hlt/object b", api.ErrParse, 3}, refusal{"object a/local g/g 1/", api.ErrParse, 3}, refusal{"object a/call g/object b/hlt", api.ErrUndefined, 2},
		refusal{"object a/local g/object b/hlt", api.ErrUndefined, 2}, refusal{"object a/data 5000/object b/hlt", api.ErrData, 1}, refusal{"object a/data 5000/hlt/object b", api.ErrParse, 3}, refusal{"object a/jump 9/object b/call g/object c", api.ErrPlace, 1},
		refusal{"object a/halt/object b/jump 9/object c/call g/object d", api.ErrPlace, 3}, refusal{"object a/call g/object b/call h", api.ErrUndefined, 2}, refusal{"object a/global g 2/halt/object b/x:/x:", api.ErrPlace, 1},
	)
}

// labels tells so many lines with labels of unlike names.
func labels(count int) string {
	s := ""
	for k := range count {
		s += fmt.Sprintf("s%d:\n", k)
	}
	return s
}

func TestWhatMayNotBe(t *testing.T) {
	refusesAll(t, "P5.1 1: object.Check's error, and the line at which the object begins",
		refusal{"object a/halt/data 4097", api.ErrData, 1}, refusal{"/object a/data -1", api.ErrData, 2}, refusal{"object a/data 4096 1", api.ErrData, 1}, refusal{"object a/data 4095 1 2", api.ErrData, 1},
		refusal{"object a/halt//object b/halt/global f 2", api.ErrPlace, 4}, refusal{"object a/weak f -1", api.ErrPlace, 1}, refusal{"object a/local f 1/object b/halt", api.ErrPlace, 1}, refusal{"#/#/object a/halt/jump 3", api.ErrPlace, 3},
		// Object.Check's first error, too.
		refusal{"object a/jump 9/global f 9/data 5000", api.ErrData, 1}, refusal{"object a/object b/jump 9/data 5000", api.ErrData, 2},
	)
	reads(t, "P5.1: Data up to the memory's end", lines("object a/data 4096"), api.Object{Name: "a", DataAt: 4096})
	reads(t, "P5.1: Data up to the memory's end", lines("object a/data 4095 7"), api.Object{Name: "a", DataAt: 4095, Data: []int64{7}})
	reads(t, "P5.1: 4096 words of Data", []byte("object a\ndata 0"+strings.Repeat(" 5", 4096)), api.Object{Name: "a", Data: slices.Repeat([]int64{5}, 4096)})
	refuses(t, "P5.1 1: 4097 words of Data", []byte("\nobject a\ndata 0"+strings.Repeat(" 5", 4097)), api.ErrData, 2)

	var symbols []api.Symbol
	for k := range 256 {
		symbols = append(symbols, api.Symbol{Name: fmt.Sprint("s", k)})
	}
	reads(t, "P5.1: 256 symbols", []byte("object a\n"+labels(256)), api.Object{Name: "a", Symbols: symbols})
	refuses(t, "P5.1 1: 257 symbols", []byte("object a\n"+labels(257)), api.ErrMany, 1)
	refuses(t, "P5.1 1: 257 symbols of the second object", []byte("object a\n"+labels(256)+"object b\n"+labels(256)+"wanted w"), api.ErrMany, 258)
	refuses(t, "P5.1 1: 257 symbols, and what is asked ahead", []byte("object a\n"+labels(257)+"local g"), api.ErrUndefined, 259)
	refuses(t, "P5.1 2: 257 symbols, and what is on a line ahead", []byte("object a\n"+labels(257)+"hlt"), api.ErrParse, 259)
	refuses(t, "P5.1 4: 257 symbols, and what is on a line ahead", []byte("object a\n"+labels(257)+"s256:"), api.ErrTwice, 259)

	// A source has no room for more than MaxText words of code: a line of one has five bytes at least.
	most := (api.MaxSource - len("object a\n")) / len("go 1\n")
	reads(t, "P5.1: as many words of code as there is room for", []byte("object a\n"+strings.Repeat("go 1\n", most)), api.Object{Name: "a", Code: slices.Repeat([]uint32{word("go", 1)}, most)})
}

func TestManyObjects(t *testing.T) {
	reads(t, "P5.1: three objects", lines("object a/halt/object b/data 7/object a/wanted b/x: jump b/weak y/y:"), halting(), api.Object{Name: "b", DataAt: 7}, api.Object{
		Name: "a", Code: []uint32{word("jump", 0)}, Symbols: []api.Symbol{{Name: "b", Kind: api.Wanted}, {Name: "x"}, {Name: "y", Kind: api.Weak, At: 1}}, Relocs: []api.Reloc{{}},
	})
	many := api.MaxSource / len("object a\n")
	reads(t, "P5.1: as many as there is room for", []byte(strings.Repeat("object a\n", many)), slices.Repeat([]api.Object{{Name: "a"}}, many)...)
}

const manySaid = "object a\ndata 3 1 2 3\nwanted f\nx: call f\njump x\nweak w 1\nhalt\nobject b\ndata 9 9\ny: zero 1 y\nz: jump z\n"

func TestReadLeavesItsArgument(t *testing.T) {
	room := []byte(manySaid + "hlt\n")
	before := slices.Clone(room)
	src := room[:len(manySaid)]
	l, e, line := asm.Read(src)
	if e != api.OK || line != 0 || len(l) != 2 {
		t.Fatalf("P5.1: what lies behind the source: %v, %d at %d", l, e, line)
	}
	if !slices.Equal(room, before) {
		t.Errorf("R5: Read changed what it was handed: %q", room)
	}
	want, _, _ := asm.Read([]byte(manySaid))
	for k := range room {
		room[k] = '?'
	}
	if !slices.EqualFunc(l, want, same) {
		t.Errorf("R5: the answer changes with the source: %v", l)
	}
}

// scribble fills all of a list, its spare room too.
func scribble[T any](list []T, with T) {
	list = list[:cap(list)]
	for k := range list {
		list[k] = with
	}
}

// scribblers tells for each list of an answer a function that fills it.
func scribblers(l []api.Object) []func() {
	var all []func()
	for k := range l {
		o := l[k]
		all = append(all,
			func() { scribble(o.Code, 77) }, func() { scribble(o.Data, 77) },
			func() { scribble(o.Symbols, api.Symbol{Name: "?", Kind: 7, At: 7}) }, func() { scribble(o.Relocs, api.Reloc{At: 77, Sym: 77}) })
	}
	return append(all, func() { scribble(l, api.Object{Name: "?"}) })
}

// texts tells the lists of an answer, each as a text; the list of objects, as one of names, is the last.
func texts(l []api.Object) []string {
	var all, names []string
	for _, o := range l {
		all = append(all, fmt.Sprint(o.Code), fmt.Sprint(o.Data), fmt.Sprint(o.Symbols), fmt.Sprint(o.Relocs))
		names = append(names, o.Name)
	}
	return append(all, fmt.Sprint(names))
}

func TestAnswersShareNothing(t *testing.T) {
	src := []byte(manySaid)
	count := len(texts(must(t, src)))
	for filled := range count {
		one, other := must(t, src), must(t, src)
		before := texts(one)
		held := slices.Clone(one)
		scribblers(one)[filled]()
		if !slices.Equal(texts(other), before) || !slices.EqualFunc(other, must(t, src), same) {
			t.Errorf("R5: two answers share memory: %v", other)
		}
		for k, text := range texts(held) {
			if k != filled && text != before[k] {
				t.Errorf("R5: the list %d of an answer shares memory with its list %d: %s", k, filled, text)
			}
		}
	}
}

func must(t *testing.T, src []byte) []api.Object {
	t.Helper()
	l, e, line := asm.Read(src)
	if e != api.OK {
		t.Fatalf("P5.1: %s: %d at %d", short(src), e, line)
	}
	return l
}
