package live_test

import (
	"slices"
	"testing"

	"pleat/api"
	"pleat/live"
)

// withRoom copies a list, with three more elements of its own behind its end.
func withRoom[T any](list []T, more T) []T {
	return append(append(make([]T, 0, len(list)+3), list...), more, more, more)[:len(list)]
}

// sample tells an image with several leaps of both kinds, and with words behind its text that would read.
func sample() api.Image {
	return api.Image{
		Text:   withRoom([]uint32{place(1, 4), call(6), zero(1, 4), calls(1), out(2), goTo(2), set(3, 1), calls(4), goTo(15)}, out(9)),
		Entry:  3,
		Memory: withRoom([]int64{1, -2}, 7),
	}
}

func sampleBehind() []uint16 {
	leap, called := of(1, 2, 15), of(1, 2, 4)
	return row(called, called, leap, leap, leap, leap, called, leap, leap)
}

func sampleIn() []uint16 {
	leap := of(1, 2, 15)
	return row(of(2, 4), leap, of(1, 2), leap, of(1, 2, 4), leap)
}

func sampleOut() []uint16 {
	leap := of(1, 2, 15)
	return row(of(1, 2, 4), leap, leap, leap, leap, leap)
}

func holdsSample(t *testing.T) {
	t.Helper()
	behind(t, "the sample", sample(), sampleBehind()...)
	blocks(t, "the sample", sample(), sampleIn(), sampleOut())
}

func TestImagesAreLeft(t *testing.T) {
	for range 3 {
		holdsSample(t)
		x, kept, refused := sample(), sample(), sample()
		refused.Entry = 9
		for _, given := range []api.Image{x, refused} {
			live.Blocks(given)
			live.Behind(given)
			if !slices.Equal(given.Text[:12], kept.Text[:12]) || !slices.Equal(given.Memory[:5], kept.Memory[:5]) {
				t.Fatalf("R5: the image was changed: %#x, %v", given.Text[:12], given.Memory[:5])
			}
		}
	}
}

// spoil writes over all of a list, its spare room too.
func spoil[T any](l []T, with T) {
	l = l[:cap(l)]
	for k := range l {
		l[k] = with
	}
}

func TestAnswersAreNew(t *testing.T) {
	x := sample()
	l, _ := live.Behind(x)
	again, _ := live.Behind(x)
	in, out, _ := live.Blocks(x)
	inAgain, outAgain, _ := live.Blocks(x)
	spoil(l, 12345)
	spoil(in, 23456)
	if !slices.Equal(out, sampleOut()) {
		t.Errorf("R5: in and out share memory: %v", out)
	}
	spoil(out, 34567)
	if !slices.Equal(in, slices.Repeat(row(23456), 6)) {
		t.Errorf("R5: out and in share memory: %v", in)
	}
	kept := sample()
	if !slices.Equal(x.Text[:12], kept.Text[:12]) || !slices.Equal(x.Memory[:5], kept.Memory[:5]) {
		t.Error("R5: an answer has memory of the image")
	}
	spoil(x.Text, halt)
	spoil(x.Memory, 0)
	if !slices.Equal(again, sampleBehind()) || !slices.Equal(inAgain, sampleIn()) || !slices.Equal(outAgain, sampleOut()) {
		t.Errorf("R5: an answer has memory of another one, or of the image: %v, %v, %v", again, inAgain, outAgain)
	}
	holdsSample(t)
	behind(t, "R6: the image, with other words", x, make([]uint16, 9)...)
}

// TestAlwaysTheSame asks one image many times: what is told does not hang on the order in which blocks are gone through.
func TestAlwaysTheSame(t *testing.T) {
	x := text(zero(0, 3), move(1, 2), jump(0), zero(0, 6), move(2, 3), jump(0), calls(1), move(3, 4), call(0), out(5), goTo(15))
	want, _ := live.Behind(x)
	in, out, _ := live.Blocks(x)
	for range 2000 {
		behind(t, "R6: once more", x, want...)
		blocks(t, "R6: once more", x, in, out)
	}
}
