package repeat_test

import (
	"math/rand"
	"slices"
	"testing"

	"pleat/api"
	"pleat/repeat"
)

// withRoom copies a list, with three more elements of its own behind its end.
func withRoom[T any](list []T, more T) []T {
	return append(append(make([]T, 0, len(list)+3), list...), more, more, more)[:len(list)]
}

// roomy tells an image as it is handed in: with words behind its text that would go on with it, and with a memory.
func roomy(x api.Image) api.Image {
	return api.Image{Text: withRoom(x.Text, x.Text[0]), Entry: x.Entry, Memory: withRoom([]int64{1, -2}, 7)}
}

// spoil writes over all of a list, its spare room too.
func spoil[T any](l []T, with T) {
	l = l[:cap(l)]
	for k := range l {
		l[k] = with
	}
}

// left holds that an image is as roomy made it.
func left(t *testing.T, what string, given, sample api.Image) {
	t.Helper()
	kept := roomy(sample)
	text, memory := given.Text[:cap(given.Text)], given.Memory[:cap(given.Memory)]
	if !slices.Equal(text, kept.Text[:cap(kept.Text)]) || !slices.Equal(memory, kept.Memory[:cap(kept.Memory)]) {
		t.Fatalf("R5: %s: the image was changed: %#x, %v", what, text, memory)
	}
}

func TestImagesAreLeft(t *testing.T) {
	for _, sample := range samples() {
		x := roomy(sample)
		for range 3 {
			holds(t, "with room behind it", x, plainOf(t, sample).all()...)
			left(t, "what is told", x, sample)
			for at := -1; at <= len(x.Text); at++ {
				for length := -1; length <= len(x.Text)+3; length++ {
					repeat.Places(x, at, length)
				}
			}
			left(t, "Places", x, sample)
			wrong := x
			wrong.Entry = len(x.Text)
			repeat.All(wrong)
			repeat.Count(wrong)
			repeat.Places(wrong, 0, 2)
			left(t, "what was refused", x, sample)
		}
	}
}

// TestImageIsNotKept changes an image behind the call of All, and while it is gone over.
func TestImageIsNotKept(t *testing.T) {
	for _, sample := range samples() {
		x := roomy(sample)
		want, sequences, other := plainOf(t, sample).all(), iterated(t, x), iterated(t, x)
		for k := range x.Text {
			x.Text[k] = words("halt")[0]
		}
		if got := slices.Collect(sequences); !alike(got, want) {
			t.Fatalf("R5: %#x: changed behind All: %v; not %v", sample.Text, got, want)
		}
		copy(x.Text, sample.Text)
		var got []api.Repeat
		for r := range other {
			got = append(got, r)
			x.Text[len(got)%len(x.Text)]++
			spoil(x.Memory, 9)
		}
		if !alike(got, want) {
			t.Fatalf("R5: %#x: changed while it is gone over: %v; not %v", sample.Text, got, want)
		}
		spoil(x.Text, words("in 1")[0])
		if got := slices.Collect(other); !alike(got, want) {
			t.Fatalf("R5: %#x: changed, spare room too: %v; not %v", sample.Text, got, want)
		}
	}
}

// spoilAll writes over what was told of each sequence, its number too.
func spoilAll(l []api.Repeat, with int) {
	for _, r := range l {
		spoil(r.At, with)
	}
}

// TestToldMemoryIsNew changes what is told, at once and all that was told ahead, and holds what is told behind it.
func TestToldMemoryIsNew(t *testing.T) {
	for _, sample := range samples() {
		x := roomy(sample)
		want, sequences := plainOf(t, sample).all(), iterated(t, x)
		for round := range 3 {
			var ahead []api.Repeat
			for r := range sequences {
				if k := len(ahead); !alike([]api.Repeat{r}, want[k:k+1]) {
					t.Fatalf("R5: %#x: what is told has memory of what was changed: %v; not %v", sample.Text, r, want[k])
				}
				ahead = append(ahead, r)
				spoilAll(ahead, -round)
				r.At = append(r.At[:0], 9, 9, 9)
			}
			if len(ahead) != len(want) {
				t.Fatalf("R5: %#x: behind a change %d sequences are told", sample.Text, len(ahead))
			}
		}
		left(t, "what was told has memory of it", x, sample)
	}
}

// apart writes over the lists of an answer, one behind the other, and tells whether each of the others is left as it was.
func apart(l []api.Repeat) bool {
	for k, r := range l {
		spoil(r.At, -k)
		for other, s := range l[:k] {
			if slices.ContainsFunc(s.At, func(at int) bool { return at != -other }) {
				return false
			}
		}
	}
	return true
}

func TestToldListsAreApart(t *testing.T) {
	for _, sample := range samples() {
		x := roomy(sample)
		want, sequences := plainOf(t, sample).all(), iterated(t, x)
		first, second, third := slices.Collect(sequences), slices.Collect(sequences), all(t, "asked anew", x)
		if !apart(first) {
			t.Fatalf("R5: %#x: two lists of one pass share memory", sample.Text)
		}
		if !alike(second, want) || !alike(third, want) {
			t.Fatalf("R5: %#x: two passes share memory: %v, %v; not %v", sample.Text, second, third, want)
		}
		spoilAll(second, 7)
		if !alike(third, want) || !alike(slices.Collect(sequences), want) {
			t.Fatalf("R5: %#x: two iterators share memory: %v; not %v", sample.Text, third, want)
		}
		left(t, "what was told has memory of it", x, sample)
	}
}

// TestLaterTellingsLeaveEarlierOnes goes on while what was told is kept.
func TestLaterTellingsLeaveEarlierOnes(t *testing.T) {
	for _, x := range samples() {
		want, sequences := plainOf(t, x).all(), iterated(t, x)
		var kept []api.Repeat
		for r := range sequences {
			if kept = append(kept, r); !alike(kept, want[:len(kept)]) {
				t.Fatalf("R5: %#x: what was told has changed: %v; not %v", x.Text, kept, want[:len(kept)])
			}
		}
	}
}

func TestPlacesAreNew(t *testing.T) {
	for _, sample := range samples() {
		x := roomy(sample)
		for _, r := range plainOf(t, sample).all() {
			first, _ := repeat.Places(x, r.At[0], r.Len)
			second, _ := repeat.Places(x, r.At[0], r.Len)
			spoil(first, -7)
			left(t, "Places has memory of it", x, sample)
			if !slices.Equal(second, r.At) {
				t.Fatalf("R5: %#x: two answers of Places share memory: %v, not %v", x.Text, second, r.At)
			}
			spoil(second, -8)
			places(t, "behind spoilt answers", x, r.At[0], r.Len, r.At...)
		}
	}
}

// TestNothingIsKept asks images one behind the other, wrong ones between them: each is answered as if it were the first.
func TestNothingIsKept(t *testing.T) {
	r := rand.New(rand.NewSource(183))
	images := samples()
	for range 20 {
		images = append(images, tossed(r, 20))
	}
	for range 10 {
		r.Shuffle(len(images), func(i, k int) { images[i], images[k] = images[k], images[i] })
		for _, x := range images {
			asReckoned(t, x)
			repeat.All(api.Image{})
			refused(t, "between others", x, 0, 1, api.ErrArg)
			asReckoned(t, x)
		}
	}
}
