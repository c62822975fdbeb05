package repeat_test

import (
	"slices"
	"testing"

	"pleat/api"
	"pleat/repeat"
)

const most = api.MaxText

// made tells an image of MaxText words, the last of which is a halt.
func made(of func(at int) uint32) api.Image {
	text := make([]uint32, most)
	for at := range text {
		text[at] = of(at)
	}
	text[most-1] = encoded(api.Halt, 0)
	return api.Image{Text: text}
}

func outs(n int) uint32 { return encoded(api.Out, int64(n)) }

// countsLarge holds how many sequences a large image has, how many places, and the first one.
func countsLarge(t *testing.T, what string, x api.Image, sequences, places int, first api.Repeat) {
	t.Helper()
	if n, m, e := repeat.Count(x); n != sequences || m != places || e != api.OK {
		t.Errorf("P18.2: %s: Count is %d, %d, %d; not %d, %d", what, n, m, e, sequences, places)
	}
	for r := range iterated(t, x) {
		if !alike([]api.Repeat{r}, []api.Repeat{first}) {
			t.Errorf("P18.1: %s: the first one is %d at %d places, %v ..; not %d at %d", what, r.Len, len(r.At), r.At[:min(len(r.At), 9)], first.Len, len(first.At))
		}
		return
	}
	if len(first.At) > 0 {
		t.Errorf("P18.1: %s: none is told", what)
	}
}

// every tells the places from the first one on, up to the end, by steps.
func every(from, step, end int) []int {
	var l []int
	for at := from; at < end; at += step {
		l = append(l, at)
	}
	return l
}

func TestTextsAtTheLimit(t *testing.T) {
	oneWord := made(func(int) uint32 { return outs(5) })
	countsLarge(t, "one word", oneWord, most-3, (most-2)*(most-1)/2-1, stands(2, every(0, 1, most-2)...))
	places(t, "one word, the longest one that stands twice", oneWord, 1, most-2, 0, 1)
	places(t, "one word, all of the text", oneWord, 0, most, 0)
	refused(t, "one word, one more than all of the text", oneWord, 0, most+1, api.ErrArg)

	countsLarge(t, "all unlike", made(outs), 0, 0, api.Repeat{})
	countsLarge(t, "blocks of one word", made(func(int) uint32 { return encoded(api.Halt, 0) }), 0, 0, api.Repeat{})

	called := made(func(at int) uint32 {
		return []uint32{outs(1), outs(2), encoded(api.Call, 0), encoded(api.Call, 2)}[at%4]
	})
	// The call 2 makes the first block one of two words.
	countsLarge(t, "blocks of three words, and of one", called, 3, most/4+2*(most/4-1), stands(2, every(0, 4, most)...))
	places(t, "blocks of three words, and of one", called, 4, 3, every(4, 4, most)...)

	halves := made(func(at int) uint32 { return outs(at % (most / 2)) })
	length := most/2 - 1 // the last one of the second half is the halt
	sequences := length * (length - 1) / 2
	countsLarge(t, "each again behind half of the text", halves, sequences, 2*sequences, stands(2, 0, most/2))
	places(t, "half of the text", halves, most/2, length, 0, most/2)
}

// TestOrderAtTheLimit holds of a text with many sequences that they rise, each once: the plain reckoning would take too long.
func TestOrderAtTheLimit(t *testing.T) {
	x := made(func(at int) uint32 { return outs(at * at % 509 % 7) })
	p := plainOf(t, x)
	numbers := func(r api.Repeat) []int { return p.numbers[r.At[0] : r.At[0]+r.Len] }
	var ahead api.Repeat
	told := 0
	for r := range iterated(t, x) {
		if told++; told > 20000 {
			break
		}
		if len(r.At) < 2 || r.Len < api.MinLen || !slices.IsSorted(r.At) {
			t.Fatalf("P18.1: %d at %v", r.Len, r.At)
		}
		for _, at := range r.At[1:] {
			if at == r.At[0] || !p.same(r.At[0], at, r.Len) {
				t.Fatalf("P18.1: %d stands at %d, and not at %d", r.Len, r.At[0], at)
			}
		}
		if told > 1 && slices.Compare(numbers(ahead), numbers(r)) >= 0 {
			t.Fatalf("P18.1: %v is told ahead of %v", ahead, r)
		}
		ahead = r
	}
	if told <= 20000 {
		t.Errorf("P18.1: %d sequences are told", told)
	}
}
