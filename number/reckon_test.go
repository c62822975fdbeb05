package number_test

import (
	"math/rand"
	"slices"
	"strings"
	"testing"

	"pleat/api"
	"pleat/number"
)

const none = -1

// taken tells a word's parts, by divisions; the op none, if it is no instruction.
func taken(w uint32) (op, d, a, b, n int) {
	fields := [...]string{
		"", "DN", "DA", "DAB", "DAB", "DAB", "DAB", "DAB", "DAB", "DAB", "DAB", "DAN", "ABN", "D", "AN", "P", "AP", "P", "A", "A", "DP", "",
	}
	op, d, a, b, n = int(w/134217728), int(w/8388608%16), int(w/524288%16), int(w/32768%16), int(w%32768)
	if op >= len(fields) {
		return none, 0, 0, 0, 0
	}
	lacks := func(field byte) bool { return strings.IndexByte(fields[op], field) < 0 }
	switch {
	case lacks('D') && d != 0, lacks('A') && a != 0, lacks('B') && b != 0, lacks('N') && lacks('P') && n != 0, lacks('N') && n >= 16384:
		return none, 0, 0, 0, 0
	}
	return op, d, a, b, n
}

// lone tells whether a word is alone, as DOC.md's Words say it.
func lone(w uint32) bool {
	op, d, a, b, _ := taken(w)
	switch op {
	case none, 16:
		return true
	case 17, 19:
		return false
	}
	return d == 15 || a == 15 || b == 15
}

// reckoned asks at each place all places ahead, as P15.1 says it.
func reckoned(words []uint32) []int {
	var l []int
	for k, w := range words {
		first := slices.Index(words[:k], w)
		if first >= 0 && !lone(w) {
			l = append(l, l[first])
			continue
		}
		least := 0
		for slices.Contains(l, least) {
			least++
		}
		l = append(l, least)
	}
	return l
}

// follows holds what the chapter says that follows: numbers rise where they stand first, and there are Count of them; two places have one number just if they have one word that is not alone.
func follows(t *testing.T, words []uint32, l []int) {
	t.Helper()
	next := 0
	for _, n := range l {
		if n > next || n < 0 {
			t.Fatalf("What follows: %#x: %v: %d stands first, and not %d", words, l, n, next)
		}
		if n == next {
			next++
		}
	}
	if count := number.Count(l); count != next || count != slices.Max(l)+1 {
		t.Fatalf("What follows: %#x: %v: Count is %d", words, l, count)
	}
	for i := range words {
		for k := range i {
			if (l[i] == l[k]) != number.Same(words[i], words[k]) {
				t.Fatalf("P15.1, P15.2: %#x: %v: the places %d and %d", words, l, k, i)
			}
		}
	}
}

// callsFollow holds of all calls: the same number just if they call the same place.
func callsFollow(t *testing.T, words []uint32, l []int) {
	t.Helper()
	for i := range words {
		op, _, _, _, n := taken(words[i])
		for k := range i {
			other, _, _, _, m := taken(words[k])
			if op == 17 && other == 17 && (l[i] == l[k]) != (n == m) {
				t.Fatalf("What follows: %#x: %v: the calls at %d and %d", words, l, k, i)
			}
		}
	}
}

func asReckoned(t *testing.T, x api.Image) {
	t.Helper()
	got, e := number.Of(x)
	if want := reckoned(x.Text); e != api.OK || !slices.Equal(got, want) {
		t.Fatalf("P15.1: %#x, Entry %d: Of is %v, %d; not %v", x.Text, x.Entry, got, e, want)
	}
	follows(t, x.Text, got)
	callsFollow(t, x.Text, got)
}

// TestFewWords has all texts of up to six of some words.
func TestFewWords(t *testing.T) {
	words := []uint32{set(1, 5), call(0), zero(1, 0), goTo(15), calls(15), 1}
	var l []uint32
	var grow func()
	grow = func() {
		asReckoned(t, text(append(slices.Clone(l), goTo(15))...))
		asReckoned(t, text(append(slices.Clone(l), halt)...))
		if len(l) == 5 {
			return
		}
		for _, w := range words {
			l = append(l, w)
			grow()
			l = l[:len(l)-1]
		}
	}
	grow()
}

func oneOf[T any](r *rand.Rand, from ...T) T { return from[r.Intn(len(from))] }

// tossedWord tells a word that names one of the first places of a text of that size, if it names one; its registers are few, so that it stands again.
func tossedWord(r *rand.Rand, size int) uint32 {
	n, d, a := r.Intn(min(size, 3)), uint32(15-r.Intn(3)), uint32(15-r.Intn(4))
	w := oneOf(r,
		set(d, n), move(d, a), ins(3+uint32(r.Intn(8)), d, a, 14, 0), load(d, a, n), store(d, a, n), in(d), out(d, n),
		jump(n), zero(d, n), call(n), calls(d), goTo(d), place(d, n), call(r.Intn(size)), trap, halt, uint32(1+r.Intn(3)), r.Uint32(), call(n)|1<<r.Intn(32),
	)
	if op, _, _, _, n := taken(w); n >= size && slices.Contains(row(15, 16, 17, 20), op) {
		return halt
	}
	return w
}

// tossed tells an image that may be, of at most that many words.
func tossed(r *rand.Rand, most int) api.Image {
	size := 1 + r.Intn(most)
	x := api.Image{Entry: r.Intn(size), Memory: make([]int64, r.Intn(3))}
	for range size - 1 {
		x.Text = append(x.Text, tossedWord(r, size))
	}
	x.Text = append(x.Text, oneOf(r, trap, jump(r.Intn(size)), goTo(uint32(r.Intn(16))), halt))
	return x
}

func TestTossedImages(t *testing.T) {
	r := rand.New(rand.NewSource(151))
	for range 30000 {
		asReckoned(t, tossed(r, 14))
	}
	for range 300 {
		asReckoned(t, tossed(r, 300))
	}
}
