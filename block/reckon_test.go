package block_test

import (
	"math/rand"
	"slices"
	"strings"
	"testing"

	"pleat/api"
	"pleat/block"
)

const none = -1

// opOf tells a word's op and N, by divisions; none, if it is no instruction.
func opOf(w uint32) (op, n int) {
	fields := [...]string{
		"", "DN", "DA", "DAB", "DAB", "DAB", "DAB", "DAB", "DAB", "DAB", "DAB", "DAN", "ABN", "D", "AN", "P", "AP", "P", "A", "A", "DP", "",
	}
	op, n = int(w/134217728), int(w%32768)
	if op >= len(fields) {
		return none, 0
	}
	lacks := func(field byte) bool { return strings.IndexByte(fields[op], field) < 0 }
	switch {
	case lacks('D') && w/8388608%16 != 0, lacks('A') && w/524288%16 != 0, lacks('B') && w/32768%16 != 0:
		return none, 0
	case lacks('N') && lacks('P') && n != 0, lacks('N') && n >= 16384:
		return none, 0
	}
	return op, n
}

// names tells whether one of these ops of the text has p as its N.
func names(x api.Image, p int, ops ...int) bool {
	return slices.ContainsFunc(x.Text, func(w uint32) bool {
		op, n := opOf(w)
		return n == p && slices.Contains(ops, op)
	})
}

func isLabel(x api.Image, p int) bool { return p == x.Entry || names(x, p, 15, 16, 17, 20) }

func isTaken(x api.Image, p int) bool { return names(x, p, 20) }

// behind tells whether p is the place behind one of these ops.
func behind(x api.Image, p int, ops ...int) bool {
	if p == 0 {
		return false
	}
	op, _ := opOf(x.Text[p-1])
	return slices.Contains(ops, op)
}

func isSite(x api.Image, p int) bool { return behind(x, p, 17, 18) }

func begins(x api.Image, p int) bool {
	return p == 0 || isLabel(x, p) || behind(x, p, none, 0, 15, 16, 17, 18, 19, 21)
}

// reckoned tells, place by place, those of which is holds.
func reckoned(x api.Image, is func(api.Image, int) bool) []int {
	var l []int
	for p := range x.Text {
		if is(x, p) {
			l = append(l, p)
		}
	}
	return l
}

func oneOf[T any](r *rand.Rand, from ...T) T { return from[r.Intn(len(from))] }

// tossedWord tells a word that names a place of a text of that size, if it names one.
func tossedWord(r *rand.Rand, size int) uint32 {
	n, d := r.Intn(size), uint32(r.Intn(16))
	w := oneOf(r,
		set(d, n), ins(2+uint32(r.Intn(9)), d, d, 0, 0), ins(11, d, 1, 0, n), ins(12, 0, d, 1, n), ins(13, d, 0, 0, 0), ins(14, 0, d, 0, n),
		jump(n), zero(d, n), call(n), calls(d), goTo(d), place(d, n), set(d, n), place(d, n), trap, halt, r.Uint32(), jump(n)|1<<r.Intn(32),
	)
	if op, n := opOf(w); n >= size && (op == 15 || op == 16 || op == 17 || op == 20) {
		return halt
	}
	return w
}

// tossed tells a small image that may be.
func tossed(r *rand.Rand) api.Image {
	size := 1 + r.Intn(12)
	x := api.Image{Entry: r.Intn(size), Memory: make([]int64, r.Intn(3))}
	for range size - 1 {
		x.Text = append(x.Text, tossedWord(r, size))
	}
	x.Text = append(x.Text, oneOf(r, trap, jump(r.Intn(size)), goTo(uint32(r.Intn(16))), halt))
	return x
}

// few tells each text of up to four of some words that may be, with each Entry.
func few(each func(api.Image)) {
	var grow func(words []uint32, size int)
	grow = func(words []uint32, size int) {
		if len(words) == size {
			for entry := range size {
				each(api.Image{Text: words, Entry: entry})
			}
			return
		}
		last := len(words) == size-1
		for n := range size {
			grow(append(slices.Clone(words), jump(n)), size)
			if !last {
				grow(append(slices.Clone(words), zero(3, n)), size)
				grow(append(slices.Clone(words), call(n)), size)
				grow(append(slices.Clone(words), place(3, n)), size)
			}
		}
		grow(append(slices.Clone(words), goTo(15)), size)
		if !last {
			grow(append(slices.Clone(words), set(3, 1)), size)
			grow(append(slices.Clone(words), calls(3)), size)
			grow(append(slices.Clone(words), 1), size)
		}
	}
	for size := 1; size <= 4; size++ {
		grow(nil, size)
	}
}

// asReckoned holds all four lists against those that are reckoned place by place.
func asReckoned(t *testing.T, x api.Image) {
	t.Helper()
	for k, is := range []func(api.Image, int) bool{isLabel, isTaken, isSite} {
		want := reckoned(x, is)
		if got, e := lists()[k].call(x); e != api.OK || !slices.Equal(got, want) {
			t.Fatalf("P11.1: %#x, Entry %d: %s is %v, %d; not %v", x.Text, x.Entry, lists()[k].name, got, e, want)
		}
	}
	want := between(append(reckoned(x, begins), len(x.Text))...)
	if got, e := block.Blocks(x); e != api.OK || !slices.Equal(got, want) {
		t.Fatalf("P11.2: %#x, Entry %d: Blocks is %v, %d; not %v", x.Text, x.Entry, got, e, want)
	}
}

func TestFewWordsAsReckoned(t *testing.T) {
	images := 0
	few(func(x api.Image) {
		images++
		asReckoned(t, x)
	})
	if images < 100000 {
		t.Errorf("only %d images", images)
	}
}

func TestTossedAsReckoned(t *testing.T) {
	r := rand.New(rand.NewSource(11))
	for range 60000 {
		asReckoned(t, tossed(r))
	}
}

// follows holds the blocks of x against what follows, and tells how many there are.
func follows(t *testing.T, x api.Image) int {
	t.Helper()
	fail := func(what string, details ...any) {
		t.Helper()
		t.Fatalf("What follows: %#x, Entry %d: %s %v", x.Text, x.Entry, what, details)
	}
	l, e := block.Blocks(x)
	if e != api.OK {
		fail("error", e)
	}
	end := 0
	starts := map[int]int{}
	for k, b := range l {
		if b.From != end || b.To <= b.From {
			fail("a block that is empty, or not right behind the one ahead", l)
		}
		starts[b.From], end = k, b.To
		for p := b.From; p < b.To; p++ {
			op, _ := opOf(x.Text[p])
			if p < b.To-1 && slices.Contains([]int{none, 0, 15, 16, 17, 18, 19, 21}, op) {
				fail("an end inside of a block", p, l)
			}
			if got := block.Of(l, p); got != k {
				fail("P11.3: Of", p, got, l)
			}
		}
	}
	if end != len(x.Text) || block.Of(l, -1) != -1 || block.Of(l, end) != -1 {
		fail("blocks that do not go to the text's end", l)
	}
	labels, _ := block.Labels(x)
	taken, _ := block.Taken(x)
	sites, _ := block.Sites(x)
	for _, p := range slices.Concat(labels, sites) {
		if _, is := starts[p]; !is {
			fail("a label or a return site at which no block begins", p, l)
		}
	}
	for _, p := range taken {
		if !slices.Contains(labels, p) {
			fail("a taken one that is no label", p, labels)
		}
	}
	return len(l)
}

func TestWhatFollows(t *testing.T) {
	r := rand.New(rand.NewSource(112))
	counts := map[int]int{}
	for range 40000 {
		counts[follows(t, tossed(r))]++
	}
	for k := 1; k <= 8; k++ {
		if counts[k] < 100 {
			t.Errorf("only %d images have %d blocks", counts[k], k)
		}
	}
	few(func(x api.Image) { follows(t, x) })
}

// withRoom copies a list, with three more elements of its own behind its end.
func withRoom[T any](list []T, more T) []T {
	return append(append(make([]T, 0, len(list)+3), list...), more, more, more)[:len(list)]
}

func sample() api.Image {
	return api.Image{
		Text:   withRoom([]uint32{place(1, 3), call(5), zero(1, 5), set(1, 2), calls(1), 1, place(2, 0), jump(3)}, place(1, 1)),
		Entry:  3,
		Memory: withRoom([]int64{1, -2}, 7),
	}
}

// TestImagesAreLeft: what lies behind an image's lists counts for nothing, and nothing of it is changed.
func TestImagesAreLeft(t *testing.T) {
	for range 3 {
		x, kept := sample(), sample()
		tells(t, "R5, R6: the sample", x, at(0, 3, 5), at(0, 3), at(2, 5))
		parts(t, "R5, R6: the sample", x, between(0, 2, 3, 5, 6, 8))
		refused := sample()
		refused.Entry = 8
		block.Blocks(refused)
		block.Labels(refused)
		for _, given := range []api.Image{x, refused} {
			if !slices.Equal(given.Text[:11], kept.Text[:11]) || !slices.Equal(given.Memory[:5], kept.Memory[:5]) {
				t.Fatalf("R5: the image was changed: %#x, %v", given.Text[:11], given.Memory[:5])
			}
		}
	}
}

func TestListsAreLeft(t *testing.T) {
	l := withRoom([]api.Block{{From: 4, To: 6}, {From: 1, To: 3}}, api.Block{From: 0, To: 9})
	kept := slices.Clone(l[:5])
	for p, want := range at(-1, 1, 1, -1, 0, 0, -1) {
		numbered(t, "R5: a list with room behind it", l, p, want)
	}
	if !slices.Equal(l[:5], kept) {
		t.Errorf("R5: the list was changed: %v", l[:5])
	}
	l[0] = api.Block{From: 1, To: 2}
	numbered(t, "R6: the list, with another block", l, 1, 0)
	numbered(t, "R6: the list, with another block", l, 5, -1)
}

// spoil writes over all of a list, its spare room too.
func spoil[T any](l []T, with T) {
	l = l[:cap(l)]
	for k := range l {
		l[k] = with
	}
}

// TestAnswersAreNew: neither another answer nor the image has the memory of an answer.
func TestAnswersAreNew(t *testing.T) {
	for _, c := range lists() {
		x := sample()
		first, _ := c.call(x)
		second, _ := c.call(x)
		want := slices.Clone(first)
		spoil(first, 77)
		if !slices.Equal(second, want) {
			t.Errorf("R5: two answers of %s share memory", c.name)
		}
		spoil(x.Text, halt)
		if !slices.Equal(second, want) {
			t.Errorf("R5: %s keeps the image's text", c.name)
		}
		if third, _ := c.call(sample()); !slices.Equal(third, want) {
			t.Errorf("R6: %s is %v, not %v", c.name, third, want)
		}
	}
	x := sample()
	first, _ := block.Blocks(x)
	second, _ := block.Blocks(x)
	want := slices.Clone(first)
	spoil(first, api.Block{From: 7, To: 7})
	spoil(x.Text, halt)
	if !slices.Equal(second, want) {
		t.Errorf("R5: two answers of Blocks share memory, or one the image's")
	}
	if third, _ := block.Blocks(sample()); !slices.Equal(third, want) {
		t.Errorf("R6: Blocks is %v, not %v", third, want)
	}
}
