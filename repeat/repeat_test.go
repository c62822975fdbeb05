package repeat_test

import (
	"math"
	"slices"
	"strconv"
	"strings"
	"testing"

	"pleat/api"
	"pleat/asm"
	"pleat/isa"
	"pleat/repeat"
)

// words tells the code of lines that are parted by slashes, as asm reads them.
func words(lines string) []uint32 {
	l, e, line := asm.Read([]byte("object a\n" + strings.ReplaceAll(lines, "/", "\n")))
	if e != api.OK {
		panic("the test's own lines: " + lines + ": " + e.Error() + " at line " + strconv.Itoa(line))
	}
	return l[0].Code
}

func text(lines string) api.Image { return api.Image{Text: words(lines)} }

func entered(at int, lines string) api.Image { return api.Image{Text: words(lines), Entry: at} }

func row(numbers ...int) []int { return numbers }

func stands(length int, at ...int) api.Repeat { return api.Repeat{Len: length, At: at} }

func alike(a, b []api.Repeat) bool {
	return slices.EqualFunc(a, b, func(v, w api.Repeat) bool { return v.Len == w.Len && slices.Equal(v.At, w.At) })
}

// all tells what the iterator of an image tells.
func all(t *testing.T, what string, x api.Image) []api.Repeat {
	t.Helper()
	sequences, e := repeat.All(x)
	if e != api.OK || sequences == nil {
		t.Fatalf("P18.1: %s: All of %#x refuses: %d", what, x.Text, e)
	}
	return slices.Collect(sequences)
}

// counts holds Count of an image of which all sequences are known.
func counts(t *testing.T, what string, x api.Image, l []api.Repeat) {
	t.Helper()
	places := 0
	for _, r := range l {
		places += len(r.At)
	}
	if n, m, e := repeat.Count(x); n != len(l) || m != places || e != api.OK {
		t.Fatalf("P18.2: %s: Count of %#x is %d, %d, %d; not %d, %d", what, x.Text, n, m, e, len(l), places)
	}
}

// holds holds what All and Count tell of an image, and Places of each sequence at each of its places.
func holds(t *testing.T, what string, x api.Image, want ...api.Repeat) {
	t.Helper()
	if got := all(t, what, x); !alike(got, want) {
		t.Fatalf("P18.1: %s: All of %#x, Entry %d, is %v; not %v", what, x.Text, x.Entry, got, want)
	}
	counts(t, what, x, want)
	for _, r := range want {
		for _, at := range r.At {
			places(t, what, x, at, r.Len, r.At...)
		}
	}
}

func places(t *testing.T, what string, x api.Image, at, length int, want ...int) {
	t.Helper()
	if got, e := repeat.Places(x, at, length); e != api.OK || !slices.Equal(got, want) {
		t.Fatalf("P18.3: %s: Places of %#x, Entry %d, and %d, %d is %v, %d; not %v", what, x.Text, x.Entry, at, length, got, e, want)
	}
}

func refused(t *testing.T, what string, x api.Image, at, length int, want api.Errno) {
	t.Helper()
	if got, e := repeat.Places(x, at, length); e != want || len(got) != 0 {
		t.Fatalf("P18.3, R2: %s: Places of %#x and %d, %d is %v, %d; not refused by %d", what, x.Text[:min(len(x.Text), 40)], at, length, got, e, want)
	}
}

func TestExamples(t *testing.T) {
	x := text("set 1 5/out 1 2/set 1 5/out 1 2/set 1 5/out 1 2/halt")
	holds(t, "the example", x, stands(2, 0, 2, 4), stands(3, 0, 2), stands(4, 0, 2), stands(2, 1, 3), stands(3, 1, 3))
	if n, m, e := repeat.Count(x); n != 5 || m != 11 || e != api.OK {
		t.Errorf("P18.2: Count is %d, %d, %d", n, m, e)
	}
	places(t, "the example", x, 1, 2, 1, 3)
	places(t, "the example", x, 3, 3, 1, 3)
	refused(t, "the example", x, 3, 5, api.ErrArg)
	refused(t, "the example", x, 0, 1, api.ErrArg)
}

func TestExampleWithJump(t *testing.T) {
	x := text("set 1 5/out 1 2/set 1 5/out 1 2/set 1 5/out 1 2/jump 3")
	holds(t, "with a jump at its end", x, stands(2, 0, 4), stands(2, 1, 3))
	refused(t, "across the label", x, 2, 2, api.ErrArg)
	places(t, "one of a kind", x, 0, 3, 0)
	places(t, "one of a kind, to the block's end", x, 3, 4, 3)
}

// TestExampleOfTheWhole is the fifth one of the document: six sequences at twelve places together.
func TestExampleOfTheWhole(t *testing.T) {
	holds(t, "twice four", text("set 1 5/add 1 1 1/out 1 0/out 1 1/set 1 5/add 1 1 1/out 1 0/out 1 1/halt"),
		stands(2, 0, 4), stands(3, 0, 4), stands(4, 0, 4), stands(2, 1, 5), stands(3, 1, 5), stands(2, 2, 6))
}

func encoded(op int8, n int64) uint32 {
	w, e := isa.Encode(api.Ins{Op: op, N: n})
	if e != api.OK {
		panic("the test's own word: " + e.Error())
	}
	return w
}

func TestImagesThatMayNotBe(t *testing.T) {
	halt := encoded(api.Halt, 0)
	memory := make([]int64, api.MaxMemory+1)
	long := slices.Repeat([]uint32{halt}, api.MaxText+1)
	twice := words("set 1 5/out 1 2/set 1 5/out 1 2")
	with := func(w ...uint32) []uint32 { return slices.Concat(twice, w) }
	for _, c := range []struct {
		what string
		x    api.Image
		e    api.Errno
	}{
		{"nothing", api.Image{}, api.ErrImage},
		{"no text, all else wrong", api.Image{Text: []uint32{}, Entry: -1, Memory: memory}, api.ErrImage},
		{"too long a text", api.Image{Text: long}, api.ErrLarge},
		{"too long a text, too large a memory", api.Image{Text: long, Memory: memory}, api.ErrLarge},
		{"too large a memory", api.Image{Text: with(halt), Memory: memory}, api.ErrData},
		{"too large a memory, an Entry behind", api.Image{Text: with(halt), Entry: 5, Memory: memory}, api.ErrData},
		{"an Entry below", api.Image{Text: with(halt), Entry: -1}, api.ErrEntry},
		{"an Entry behind", api.Image{Text: with(halt), Entry: 5}, api.ErrEntry},
		{"an Entry behind, and a jump", api.Image{Text: with(encoded(api.Jump, 9)), Entry: math.MaxInt}, api.ErrEntry},
		{"a jump behind", api.Image{Text: with(encoded(api.Jump, 5))}, api.ErrPlace},
		{"a zero behind", api.Image{Text: with(encoded(api.Zero, 6), halt)}, api.ErrPlace},
		{"a call behind", api.Image{Text: with(encoded(api.Call, 6), halt)}, api.ErrPlace},
		{"a place behind, and no end", api.Image{Text: with(encoded(api.Place, 5))}, api.ErrPlace},
		{"no end", api.Image{Text: twice}, api.ErrImage},
		{"a call at the end", api.Image{Text: with(encoded(api.Call, 0))}, api.ErrImage},
		{"no instruction at the end", api.Image{Text: with(1)}, api.ErrImage},
	} {
		if sequences, e := repeat.All(c.x); sequences != nil || e != c.e {
			t.Errorf("P18.1: %s: All tells an iterator: %t, %d; not %d", c.what, sequences != nil, e, c.e)
		}
		if n, m, e := repeat.Count(c.x); n != 0 || m != 0 || e != c.e {
			t.Errorf("P18.2: %s: Count is %d, %d, %d; not 0, 0, %d", c.what, n, m, e, c.e)
		}
		for _, at := range row(0, 2, -1, len(c.x.Text), math.MaxInt, math.MinInt) {
			for _, length := range row(2, 0, -1, math.MaxInt, math.MinInt) {
				refused(t, c.what, c.x, at, length, c.e)
			}
		}
	}
}

func TestShortTexts(t *testing.T) {
	for _, line := range strings.Split("trap/halt/jump 0/go 1/go 15", "/") {
		x := text(line)
		holds(t, "one word", x)
		refused(t, "one word", x, 0, 1, api.ErrArg)
		refused(t, "one word", x, 0, 2, api.ErrArg)
		x.Memory = make([]int64, api.MaxMemory)
		holds(t, "one word, and a memory", x)
	}
	holds(t, "two words", text("set 1 5/halt"))
	places(t, "two words", text("set 1 5/halt"), 0, 2, 0)
	holds(t, "one word twice", text("halt/halt"))
	holds(t, "one word twice, and another", text("set 1 5/set 1 5/halt"))
	holds(t, "one word stands twice, no two do", text("set 1 5/out 1 2/set 1 5/halt"))
	holds(t, "the least that stands twice", text("set 1 5/set 1 5/set 1 5/halt"), stands(2, 0, 1))
}

// TestOneWordManyTimes has sequences that overlap themselves.
func TestOneWordManyTimes(t *testing.T) {
	for size := range 40 {
		var want []api.Repeat
		for length := 2; length < size; length++ {
			r := api.Repeat{Len: length}
			for at := range size - length + 1 {
				r.At = append(r.At, at)
			}
			want = append(want, r)
		}
		holds(t, "one word many times", text(strings.Repeat("set 1 5/", size)+"halt"), want...)
		holds(t, "one word many times, each a block", text(strings.Repeat("halt/", size)+"halt"))
		holds(t, "one word many times, which is alone", text(strings.Repeat("set 15 5/", size)+"halt"))
	}
}

func TestWordsThatAreAllUnlike(t *testing.T) {
	holds(t, "all unlike", text("set 1 5/move 1 2/add 1 2 3/load 1 2 0/store 1 2 0/in 1/out 1 2/place 1 8/halt"))
	holds(t, "all of one op", text("set 1 5/set 2 5/set 3 5/set 1 6/set 2 6/set 3 6/set 1 7/halt"))
	holds(t, "two that change about", text("set 1 5/out 1 2/in 1/out 1 2/set 1 5/halt"))
}

func TestPeriods(t *testing.T) {
	holds(t, "two", text("in 1/in 2/in 1/in 2/in 1/halt"), stands(2, 0, 2), stands(3, 0, 2), stands(2, 1, 3))
	holds(t, "three, the greatest first", text("set 3 0/set 2 0/set 1 0/set 3 0/set 2 0/set 1 0/set 3 0/halt"),
		stands(2, 0, 3), stands(3, 0, 3), stands(4, 0, 3), stands(2, 1, 4), stands(3, 1, 4), stands(2, 2, 5))
	holds(t, "three, one of them twice", text("in 1/in 1/in 2/in 1/in 1/in 2/in 1/in 1/halt"),
		stands(2, 0, 3, 6), stands(3, 0, 3), stands(4, 0, 3), stands(5, 0, 3), stands(2, 1, 4), stands(3, 1, 4), stands(4, 1, 4), stands(2, 2, 5), stands(3, 2, 5))
}

// TestOrder has sequences whose numbers rise otherwise than their places, and such as are beginnings of others.
func TestOrder(t *testing.T) {
	holds(t, "the greater numbers stand first", text("in 1/in 2/in 3/in 2/in 3/in 1/in 2/halt"), stands(2, 0, 5), stands(2, 1, 3))
	holds(t, "the lesser ones behind", text("in 1/in 2/in 3/in 4/in 3/in 4/in 2/in 3/in 1/in 2/halt"), stands(2, 0, 8), stands(2, 1, 6), stands(2, 2, 4))
	holds(t, "a shorter one ahead of what it begins", text("in 1/in 2/in 3/in 4/in 1/in 2/in 5/in 1/in 2/in 3/in 6/halt"), stands(2, 0, 4, 7), stands(3, 0, 7), stands(2, 1, 8))
	holds(t, "a longer one ahead of a greater one", text("in 1/in 2/in 3/in 1/in 2/in 3/in 1/in 4/in 1/in 4/halt"),
		stands(2, 0, 3), stands(3, 0, 3), stands(4, 0, 3), stands(2, 6, 8), stands(2, 1, 4), stands(3, 1, 4), stands(2, 2, 5))
}

func TestWordsThatAreAlone(t *testing.T) {
	for _, lone := range strings.Split("zero 1 0/word 1/word 4294967295/set 15 5/move 15 2/move 2 15/add 1 2 15/load 1 15 0/store 1 15 0/in 15/out 15 0/place 15 0/calls 15", "/") {
		between := func(lines string) api.Image { return text(strings.ReplaceAll(lines, "LONE", lone)) }
		holds(t, lone, between("LONE/LONE/LONE/halt"))
		holds(t, lone, between("set 1 5/LONE/set 1 5/LONE/halt"))
		holds(t, lone, between("LONE/set 1 5/out 1 2/LONE/set 1 5/out 1 2/LONE/halt"), stands(2, 1, 4))
		holds(t, lone, between("set 1 5/out 1 2/in 1/LONE/set 1 5/out 1 2/LONE/in 1/halt"), stands(2, 0, 4))
		x := between("in 1/in 2/LONE/LONE/in 1/in 2/halt")
		holds(t, lone, x, stands(2, 0, 4))
		if lone == "move 2 15" {
			places(t, "a word that is alone", x, 1, 3, 1)
			places(t, "words that are alone", x, 2, 2, 2)
		}
	}
}

// TestWordsThatAreNotAlone has what comes near those that are.
func TestWordsThatAreNotAlone(t *testing.T) {
	for _, pair := range strings.Split("set 1 15/go 15;set 1 5/call 0;set 1 5/calls 14;set 1 5/go 0;out 2 15/trap;in 14/halt;place 1 0/jump 0", ";") {
		holds(t, pair, text(pair+"/"+pair+"/halt"), stands(2, 0, 2))
		holds(t, pair, text("set 15 0/"+pair+"/set 15 0/"+pair+"/set 15 0/halt"), stands(2, 1, 4))
	}
}

func TestBlocks(t *testing.T) {
	holds(t, "up to a block's very end", text("in 1/in 2/halt/in 1/in 2/halt"), stands(2, 0, 3), stands(3, 0, 3), stands(2, 1, 4))
	holds(t, "behind the end", text("in 1/halt/in 2/in 1/halt/in 2/in 1/halt"), stands(2, 0, 3, 6), stands(2, 2, 5), stands(3, 2, 5))
	holds(t, "only across ends", text("in 1/halt/in 2/halt/in 1/halt"), stands(2, 0, 4))
	holds(t, "behind a call", text("set 1 5/call 0/out 1 2/set 1 5/call 0/out 1 2/halt"), stands(2, 0, 3))
	holds(t, "behind a calls", text("in 1/calls 1/in 1/calls 1/in 1/halt"), stands(2, 0, 2))
	holds(t, "at the Entry", entered(3, "in 1/in 2/in 1/in 2/in 1/halt"), stands(2, 1, 3))
	holds(t, "at the Entry, too short a block ahead", entered(1, "in 1/in 1/in 1/halt"))
	holds(t, "at a label that is taken", text("in 1/in 2/in 1/in 2/place 3 3/halt"))
	holds(t, "at a label of a zero", text("in 1/in 2/in 3/in 1/in 2/in 3/zero 3 4/halt"), stands(2, 1, 4))
	holds(t, "at no label, as what would name it is no instruction", text("in 1/in 2/in 1/in 2/word 2013282307/halt"), stands(2, 0, 2))
	holds(t, "blocks of which the first has the least room", text("in 1/in 1/halt/in 1/in 1/in 1/in 2/in 1/in 1/in 1/in 3/halt"),
		stands(2, 0, 3, 4, 7, 8), stands(3, 3, 7))
}
