package number_test

import (
	"slices"
	"testing"

	"pleat/api"
	"pleat/number"
)

// withRoom copies a list, with three more elements of its own behind its end.
func withRoom[T any](list []T, more T) []T {
	return append(append(make([]T, 0, len(list)+3), list...), more, more, more)[:len(list)]
}

// sample tells an image with words of all kinds that stand again, and with others behind its text.
func sample() api.Image {
	return api.Image{
		Text:   withRoom([]uint32{set(1, 5), call(2), set(1, 5), 1, zero(1, 0), 1, zero(1, 0), call(2), halt}, out(9, 9)),
		Entry:  3,
		Memory: withRoom([]int64{1, -2}, 7),
	}
}

func sampleNumbers() []int { return row(0, 1, 0, 2, 3, 4, 5, 1, 6) }

func left(x api.Image) bool {
	kept := sample()
	return slices.Equal(x.Text[:12], kept.Text[:12]) && slices.Equal(x.Memory[:5], kept.Memory[:5])
}

func TestImagesAreLeft(t *testing.T) {
	for range 3 {
		x, refused := sample(), sample()
		refused.Entry = 9
		numbered(t, "the sample", x, sampleNumbers()...)
		number.Of(refused)
		if !left(x) || !left(refused) {
			t.Fatalf("R5: an image was changed: %#x, %#x", x.Text[:12], refused.Text[:12])
		}
	}
}

func TestListsAreLeft(t *testing.T) {
	l := withRoom(row(3, 1, 3, -1, 2, 1), 9)
	for range 3 {
		counted(t, "a list with room behind it", 4, l...)
		if n := number.Count(l[:2]); n != 2 {
			t.Errorf("P15.3: Count of a list's beginning is %d", n)
		}
		if !slices.Equal(l[:9], row(3, 1, 3, -1, 2, 1, 9, 9, 9)) {
			t.Fatalf("R5: the list was changed: %v", l[:9])
		}
	}
	l[1] = 2
	counted(t, "R6: the list, with other numbers", 4, l...)
	l[5] = 2
	counted(t, "R6: the list, with other numbers again", 3, l...)
}

// spoil writes over all of a list, its spare room too.
func spoil[T any](l []T, with T) {
	l = l[:cap(l)]
	for k := range l {
		l[k] = with
	}
}

func TestAnswersAreNew(t *testing.T) {
	x := sample()
	l, _ := number.Of(x)
	again, _ := number.Of(x)
	spoil(l, 12345)
	if !left(x) {
		t.Error("R5: an answer has memory of the image")
	}
	spoil(x.Text, halt)
	spoil(x.Memory, 0)
	if !slices.Equal(again, sampleNumbers()) {
		t.Errorf("R5: an answer has memory of another one, or of the image: %v", again)
	}
	numbered(t, "R6: the sample, behind another answer", sample(), sampleNumbers()...)
	numbered(t, "R6: the image, with other words", x, make([]int, 9)...)
}

// TestNothingIsKept asks texts one behind the other that would have other numbers, were those of the one ahead still known.
func TestNothingIsKept(t *testing.T) {
	for range 100 {
		numbered(t, "R6: one text", text(set(1, 5), out(1, 2), halt), 0, 1, 2)
		numbered(t, "R6: turned round", text(out(1, 2), set(1, 5), halt), 0, 1, 2)
		numbered(t, "R6: only its end", text(halt), 0)
	}
}
