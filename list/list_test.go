package list_test

import (
	"fmt"
	"math"
	"math/rand"
	"slices"
	"strings"
	"testing"

	"pleat/api"
	"pleat/isa"
	"pleat/list"
)

// op is what the document's table says of one: its name, and its fields by their letters; P is an N that is a place.
type op struct{ name, fields string }

var ops = []op{
	{"trap", ""}, {"set", "DN"}, {"move", "DA"}, {"add", "DAB"}, {"sub", "DAB"}, {"mul", "DAB"}, {"and", "DAB"}, {"or", "DAB"},
	{"xor", "DAB"}, {"less", "DAB"}, {"same", "DAB"}, {"load", "DAN"}, {"store", "ABN"}, {"in", "D"}, {"out", "AN"}, {"jump", "P"},
	{"zero", "AP"}, {"call", "P"}, {"calls", "A"}, {"go", "A"}, {"place", "DP"}, {"halt", ""},
}

// word makes an instruction's word by sums, so that the tests know nothing of how package isa makes it.
func word(number int, fields ...int) uint32 {
	w := number * 134217728
	for k, letter := range ops[number].fields {
		switch letter {
		case 'D':
			w += fields[k] * 8388608
		case 'A':
			w += fields[k] * 524288
		case 'B':
			w += fields[k] * 32768
		default:
			w += (fields[k] + 32768) % 32768
		}
	}
	return uint32(w)
}

// named makes the word of the op of that name.
func named(name string, fields ...int) uint32 {
	return word(slices.IndexFunc(ops, func(o op) bool { return o.name == name }), fields...)
}

// plainIns tells the line of w by taking it apart with divisions.
func plainIns(w uint32) string {
	none := fmt.Sprintf("word %d", w)
	number := int(w / 134217728)
	if number >= len(ops) {
		return none
	}
	o := ops[number]
	n := int(w % 32768)
	if n >= 16384 {
		n -= 32768
	}
	value := map[rune]int{'D': int(w / 8388608 % 16), 'A': int(w / 524288 % 16), 'B': int(w / 32768 % 16), 'N': n, 'P': n}
	line := o.name
	var fields []int
	for _, letter := range o.fields {
		if letter == 'P' && n < 0 {
			return none
		}
		line += fmt.Sprintf(" %d", value[letter])
		fields = append(fields, value[letter])
	}
	// What the fields do not say of the word is a bit that the op has not.
	if word(number, fields...) != w {
		return none
	}
	return line
}

func tells(t *testing.T, what string, w uint32, want string) {
	t.Helper()
	if got := list.Ins(w); got != want {
		t.Errorf("%s: Ins of %#x is %q, not %q", what, w, got, want)
	}
}

// choices tells all rows of fields, each of them taken from what its letter has.
func choices(letters string, of map[byte][]int) [][]int {
	rows := [][]int{nil}
	for k := range len(letters) {
		var longer [][]int
		for _, row := range rows {
			for _, n := range of[letters[k]] {
				longer = append(longer, append(slices.Clone(row), n))
			}
		}
		rows = longer
	}
	return rows
}

// edges tells the fields at and beside their least and greatest.
func edges() map[byte][]int {
	registers := []int{0, 1, 9, 10, 14, 15}
	return map[byte][]int{
		'D': registers, 'A': registers, 'B': registers,
		'N': {-16384, -16383, -10, -1, 0, 1, 9, 10, 16382, 16383}, 'P': {0, 1, 9, 10, 8191, 8192, 16382, 16383},
	}
}

func TestInsExamples(t *testing.T) {
	tells(t, "P6.1", 0x08807FFF, "set 1 -1")
	tells(t, "P6.1", 0, "trap")
	tells(t, "P6.1", 1, "word 1")
	tells(t, "P6.1", named("store", 1, 2, -3), "store 1 2 -3")
	tells(t, "P6.1", 0xA8000000, "halt")
	tells(t, "P6.1", 0x18918000, "add 1 2 3")
	tells(t, "P6.1", 0x78000005, "jump 5")
	tells(t, "P6.1", 0x98780000, "go 15")
	tells(t, "P6.1", 0xA1003FFF, "place 2 16383")
}

func TestInsOfEachOp(t *testing.T) {
	for number, o := range ops {
		for _, row := range choices(o.fields, edges()) {
			want := o.name
			for _, n := range row {
				want += fmt.Sprintf(" %d", n)
			}
			tells(t, "P6.1: an op's fields", word(number, row...), want)
		}
	}
	// Unlike fields show in which order they are told.
	tells(t, "P6.1: D A B", named("less", 3, 2, 1), "less 3 2 1")
	tells(t, "P6.1: D A N", named("load", 4, 3, -5), "load 4 3 -5")
	tells(t, "P6.1: A B N", named("store", 6, 5, 4), "store 6 5 4")
	tells(t, "P6.1: D N", named("set", 7, 6), "set 7 6")
	tells(t, "P6.1: A N", named("out", 7, -16384), "out 7 -16384")
	tells(t, "P6.1: A and a place", named("zero", 8, 7), "zero 8 7")
}

func TestInsOfNoInstruction(t *testing.T) {
	tells(t, "P6.1: no instruction", 0xFFFFFFFF, "word 4294967295")
	tells(t, "P6.1: no such op", 0xB0000000, "word 2952790016")
	tells(t, "P6.1: no such place", 0x78004000, "word 2013282304")
	tells(t, "P6.1: a place below 0", 0x80007FFF, "word 2147516415")
	for number := 22; number < 32; number++ {
		for _, rest := range []int{0, 1, 32768, 134217727} {
			w := uint32(number*134217728 + rest)
			tells(t, "P6.1: no such op", w, fmt.Sprintf("word %d", w))
		}
	}
	first := map[byte]int{'D': 23, 'A': 19, 'B': 15, 'N': 0}
	bits := map[byte]int{'D': 4, 'A': 4, 'B': 4, 'N': 15}
	for number, o := range ops {
		whole := word(number, choices(o.fields, map[byte][]int{'D': {5}, 'A': {6}, 'B': {7}, 'N': {8}, 'P': {9}})[0]...)
		for field, at := range first {
			if strings.ContainsRune(strings.ReplaceAll(o.fields, "P", "N"), rune(field)) {
				continue
			}
			for bit := range bits[field] {
				w := whole | 1<<(at+bit)
				tells(t, "P6.1: a bit in a field that "+o.name+" has not", w, fmt.Sprintf("word %d", w))
			}
		}
		if strings.Contains(o.fields, "P") {
			tells(t, "P6.1: a place of 2^14 and more", whole|1<<14, fmt.Sprintf("word %d", whole|1<<14))
		}
	}
}

// someWords tells words of each op with their fields' edges, each of them with each bit turned, and many others.
func someWords() []uint32 {
	var words []uint32
	for number, o := range ops {
		for _, row := range choices(o.fields, edges()) {
			words = append(words, word(number, row...))
		}
	}
	for _, w := range words[:len(words):len(words)] {
		for bit := range 32 {
			words = append(words, w^1<<bit)
		}
	}
	r := rand.New(rand.NewSource(6))
	for range 100000 {
		words = append(words, r.Uint32(), uint32(r.Intn(22)*134217728+r.Intn(65536)), uint32(r.Intn(32)*134217728+r.Intn(256)*524288))
	}
	for w := range uint32(3000) {
		words = append(words, w, math.MaxUint32-w)
	}
	return words
}

// TestInsUnlike holds each line against the plain one, and asks that it is no other word's.
func TestInsUnlike(t *testing.T) {
	of := map[string]uint32{}
	for _, w := range someWords() {
		line := list.Ins(w)
		if want := plainIns(w); line != want {
			t.Fatalf("P6.1: Ins of %#x is %q, not %q", w, line, want)
		}
		if other, met := of[line]; met && other != w {
			t.Fatalf("W6: %#x and %#x are both %q", w, other, line)
		}
		of[line] = w
	}
}

func TestInsAndEncode(t *testing.T) {
	for number, o := range ops {
		for _, row := range choices(o.fields, edges()) {
			i := api.Ins{Op: int8(number)}
			for k, letter := range o.fields {
				switch letter {
				case 'D':
					i.D = int8(row[k])
				case 'A':
					i.A = int8(row[k])
				case 'B':
					i.B = int8(row[k])
				default:
					i.N = int64(row[k])
				}
			}
			w, e := isa.Encode(i)
			if line := list.Ins(w); e != api.OK || line != plainIns(word(number, row...)) || wordOf(line) != w {
				t.Errorf("W6: %v is the word %#x, %q, and that the word %#x", i, w, line, wordOf(line))
			}
		}
	}
}

// wordOf tells the word whose line that is.
func wordOf(line string) uint32 {
	words := strings.Split(line, " ")
	var fields []int
	for _, s := range words[1:] {
		n := 0
		fmt.Sscan(s, &n)
		fields = append(fields, n)
	}
	if words[0] == "word" {
		return uint32(fields[0])
	}
	return named(words[0], fields...)
}

func TestWordsThereAndBack(t *testing.T) {
	for _, w := range someWords() {
		if line := list.Ins(w); wordOf(line) != w {
			t.Fatalf("W6: %#x is told as %q, which is %#x", w, line, wordOf(line))
		}
	}
}

func TestCode(t *testing.T) {
	for _, none := range [][]uint32{nil, {}, make([]uint32, 0, 9)} {
		if l := list.Code(none); len(l) != 0 {
			t.Errorf("P6.1, R4: Code of nothing is %q", l)
		}
	}
	for want, text := range map[string][]uint32{
		"trap":                             {0},
		"word 1/word 4294967295/trap":      {1, 0xFFFFFFFF, 0},
		"trap/trap":                        {0, 0},
		"jump 16383/call 0/halt/go 15":     {named("jump", 16383), named("call", 0), named("halt"), named("go", 15)},
		"set 0 -16384/word 2/set 1 2/in 0": {named("set", 0, -16384), 2, named("set", 1, 2), named("in", 0)},
	} {
		if l := list.Code(text); !slices.Equal(l, strings.Split(want, "/")) {
			t.Errorf("P6.1: Code of %v is %q, not %q", text, l, want)
		}
	}
	long := someWords()
	l := list.Code(long)
	if len(l) != len(long) {
		t.Fatalf("P6.1: Code of %d words is %d lines", len(long), len(l))
	}
	for place, w := range long {
		if l[place] != plainIns(w) {
			t.Fatalf("P6.1: the word %d of the code, %#x, is %q", place, w, l[place])
		}
	}
}

func TestCodeIsNewMemory(t *testing.T) {
	spare := []uint32{0, 1, named("call", 3), 7, 8, 9}
	whole := slices.Clone(spare)
	text := spare[:3]
	first, second := list.Code(text), list.Code(text)
	if !slices.Equal(spare, whole) {
		t.Errorf("R5: the text that was handed in is %v now", spare)
	}
	for k := range first[:cap(first)] {
		first[:cap(first)][k] = "x"
	}
	if want := []string{"trap", "word 1", "call 3"}; !slices.Equal(second, want) {
		t.Errorf("R5: what was written to one answer is seen in the other: %q", second)
	}
	second = append(second, "y")
	text[0], text[1] = 5, 6
	if second[0] != "trap" || second[1] != "word 1" {
		t.Errorf("R5: what was written to the text is seen in the answer: %q", second)
	}
	if again := list.Code(whole[:3]); !slices.Equal(again, []string{"trap", "word 1", "call 3"}) {
		t.Errorf("R6: the same text once more: %q", again)
	}
}
