package repeat_test

import (
	"math/rand"
	"slices"
	"testing"

	"pleat/api"
	"pleat/block"
	"pleat/image"
	"pleat/number"
)

// plain is a text by its numbers and by where each place's block ends: sequences are found in it by holding places against each other, one by one.
type plain struct{ numbers, ends []int }

func plainOf(t *testing.T, x api.Image) plain {
	t.Helper()
	numbers, e := number.Of(x)
	blocks, also := block.Blocks(x)
	if e != api.OK || also != api.OK {
		t.Fatalf("%#x: no image: %d, %d", x.Text, e, also)
	}
	p := plain{numbers: numbers, ends: make([]int, len(numbers))}
	for at := range numbers {
		p.ends[at] = blocks[block.Of(blocks, at)].To
	}
	return p
}

func (p plain) hasRoom(at, length int) bool { return p.ends[at] >= at+length }

func (p plain) same(i, k, length int) bool {
	return p.hasRoom(i, length) && p.hasRoom(k, length) && slices.Equal(p.numbers[i:i+length], p.numbers[k:k+length])
}

func (p plain) places(at, length int) []int {
	var l []int
	for k := range p.numbers {
		if p.same(at, k, length) {
			l = append(l, k)
		}
	}
	return l
}

// all tells each sequence that stands twice when its first place comes, and sorts them by their numbers.
func (p plain) all() []api.Repeat {
	var l []api.Repeat
	for at := range p.numbers {
		for length := 2; p.hasRoom(at, length); length++ {
			if where := p.places(at, length); len(where) > 1 && where[0] == at {
				l = append(l, api.Repeat{Len: length, At: where})
			}
		}
	}
	numbers := func(r api.Repeat) []int { return p.numbers[r.At[0] : r.At[0]+r.Len] }
	slices.SortFunc(l, func(a, b api.Repeat) int { return slices.Compare(numbers(a), numbers(b)) })
	return l
}

// pairsFollow holds W3 of every two places and each length: where the same numbers stand, one Repeat has both; elsewhere none has.
func (p plain) pairsFollow(t *testing.T, x api.Image, l []api.Repeat) {
	t.Helper()
	for i := range p.numbers {
		for k := range i {
			for length := range len(p.numbers) + 2 {
				want := 0
				if length >= api.MinLen && p.same(i, k, length) {
					want = 1
				}
				for _, r := range l {
					if r.Len == length && slices.Contains(r.At, i) && slices.Contains(r.At, k) {
						want--
					}
				}
				if want != 0 {
					t.Fatalf("W3: %#x, Entry %d: %v: the places %d and %d are together %d times too few for the length %d", x.Text, x.Entry, l, k, i, want, length)
				}
			}
		}
	}
}

// beginningsFollow holds that each beginning of a sequence is told, at all its places.
func beginningsFollow(t *testing.T, x api.Image, l []api.Repeat) {
	t.Helper()
	for _, whole := range l {
		for length := api.MinLen; length < whole.Len; length++ {
			if !slices.ContainsFunc(l, func(r api.Repeat) bool {
				return r.Len == length && !slices.ContainsFunc(whole.At, func(at int) bool { return !slices.Contains(r.At, at) })
			}) {
				t.Fatalf("What follows: %#x, Entry %d: %v: of %v the beginning of %d is not told", x.Text, x.Entry, l, whole, length)
			}
		}
	}
}

// asReckoned holds All and Count, and Places of what All tells, against the plain reckoning.
func asReckoned(t *testing.T, x api.Image) (plain, []api.Repeat) {
	t.Helper()
	p := plainOf(t, x)
	want := p.all()
	if got := all(t, "as reckoned", x); !alike(got, want) {
		t.Fatalf("P18.1: %#x, Entry %d: All is %v; not %v", x.Text, x.Entry, got, want)
	}
	counts(t, "as reckoned", x, want)
	for k, r := range want {
		places(t, "of what All tells", x, r.At[k%len(r.At)], r.Len, r.At...)
	}
	return p, want
}

func allFollows(t *testing.T, x api.Image) {
	t.Helper()
	p, l := asReckoned(t, x)
	p.pairsFollow(t, x, l)
	beginningsFollow(t, x, l)
}

// eachText tells all texts of up to that many of some words, and an end behind them.
func eachText(most int, from []uint32, end uint32, tell func(words []uint32)) {
	var l []uint32
	var grow func()
	grow = func() {
		tell(append(slices.Clone(l), end))
		if len(l) == most {
			return
		}
		for _, w := range from {
			l = append(l, w)
			grow()
			l = l[:len(l)-1]
		}
	}
	grow()
}

func TestTextsOfTwoWords(t *testing.T) {
	eachText(11, words("in 1/in 2"), words("halt")[0], func(w []uint32) { allFollows(t, api.Image{Text: w}) })
}

func TestTextsOfFewWords(t *testing.T) {
	eachText(7, words("in 1/out 1 2/halt"), words("halt")[0], func(w []uint32) {
		for _, entry := range row(0, len(w)/2, len(w)-1) {
			allFollows(t, api.Image{Text: w, Entry: entry})
		}
	})
	eachText(5, words("in 1/move 2 15/zero 1 0/word 1/in 2"), words("go 15")[0], func(w []uint32) { allFollows(t, api.Image{Text: w}) })
}

// TestTextsOfTargets has labels in the midst, and blocks that end for all reasons.
func TestTextsOfTargets(t *testing.T) {
	eachText(6, words("in 1/call 0/place 1 2/jump 1/calls 2/zero 1 1"), words("in 1/go 15")[1], func(w []uint32) {
		x := api.Image{Text: w}
		if e, _ := image.Check(x); e == api.OK {
			allFollows(t, x)
		}
	})
}

func oneOf[T any](r *rand.Rand, from ...T) T { return from[r.Intn(len(from))] }

// tossed tells an image that may be, of at most that many words, most of which are no labels and end no block; some of them are laid down twice.
func tossed(r *rand.Rand, most int) api.Image {
	size := 1 + r.Intn(most)
	text := make([]uint32, size)
	for at := range text {
		text[at] = encoded(api.Out, int64(r.Intn(3)))
		if r.Intn(6) == 0 {
			n := int64(r.Intn(size))
			text[at] = oneOf(r, encoded(api.Jump, n), encoded(api.Zero, n), encoded(api.Call, n), encoded(api.Place, n), encoded(api.Halt, 0), words("calls 2")[0], words("set 15 1")[0], 1, r.Uint32()|1<<31|1<<29)
		}
	}
	for range r.Intn(4) {
		copy(text[r.Intn(size):], slices.Clone(text[r.Intn(size):]))
	}
	text[size-1] = oneOf(r, encoded(api.Trap, 0), encoded(api.Jump, int64(r.Intn(size))), encoded(api.Go, 0), encoded(api.Halt, 0))
	return api.Image{Text: text, Entry: r.Intn(size)}
}

func TestTossedTexts(t *testing.T) {
	r := rand.New(rand.NewSource(181))
	for range 5000 {
		allFollows(t, tossed(r, 14))
	}
	for range 1000 {
		asReckoned(t, tossed(r, 40))
	}
	for range 30 {
		asReckoned(t, tossed(r, 200))
	}
}
