package class_test

import (
	"math/rand"
	"slices"
	"testing"

	"pleat/api"
	"pleat/class"
)

// withRoom copies a list, with three more elements of its own behind its end.
func withRoom[T any](list []T, more T) []T {
	return append(append(make([]T, 0, len(list)+3), list...), more, more, more)[:len(list)]
}

// whole tells a list with its spare room.
func whole[T any](l []T) []T { return l[:cap(l)] }

// roomy tells an image as it is handed in: with words behind its text that would go on with it, and with a memory.
func roomy(x api.Image) api.Image {
	return api.Image{Text: withRoom(x.Text, x.Text[0]), Entry: x.Entry, Memory: withRoom([]int64{1, -2}, 7)}
}

// spoil writes over all of a list, its spare room too.
func spoil[T any](l []T, with T) {
	for k := range whole(l) {
		whole(l)[k] = with
	}
}

// left holds that an image is as roomy made it.
func left(t *testing.T, what string, given, sample api.Image) {
	t.Helper()
	kept := roomy(sample)
	if !slices.Equal(whole(given.Text), whole(kept.Text)) || !slices.Equal(whole(given.Memory), whole(kept.Memory)) {
		t.Fatalf("R5: %s: the image was changed: %#x, %v", what, whole(given.Text), whole(given.Memory))
	}
}

// asked is an image, and sequences of it with their spots.
type asked struct {
	x       api.Image
	repeats []api.Repeat
	spots   [][]api.Spot
}

func askedOf(x api.Image, repeats ...api.Repeat) asked {
	a := asked{x: x, repeats: repeats}
	p := plainOf(x)
	for _, r := range repeats {
		var spots []api.Spot
		for _, at := range r.At {
			if s := p.spot(r.Len, at); s.Class != api.None {
				spots = append(spots, s)
			}
		}
		a.spots = append(a.spots, spots)
	}
	return a
}

// samples are images with sequences of each class, and of none.
func samples() []asked {
	four := row(in(1), in(2), in(3), in(4))
	return []asked{
		askedOf(thrice(), stands(4, 0, 4, 8), stands(8, 0, 4), stands(2, 2, 6, 10), stands(2, 2), stands(13, 0)),
		askedOf(text(slices.Concat(four, row(halt), four, row(goTo(15)), four, readsAll(15))...), stands(4, 0, 5, 10), stands(4, 10), stands(3, 0, 5, 10), stands(5, 4)),
		askedOf(text(in(1), goTo(15), in(1), goTo(15), in(1), call(0), in(1), call(0), halt), stands(2, 0, 2), stands(2, 4, 6), stands(2, 4)),
		askedOf(text(slices.Concat(slices.Repeat(row(out(1, 0)), 9), row(goTo(15)))...), stands(4, 0, 1, 2, 3, 4, 5), stands(2, 0, 1, 7)),
	}
}

// all holds all that is known of a sample, told by x.
func (a asked) all(t *testing.T, what string, x api.Image) {
	t.Helper()
	for k, r := range a.repeats {
		are(t, what, x, r, a.spots[k]...)
		for _, s := range a.spots[k] {
			is(t, what, x, r.Len, s)
		}
	}
}

func TestArgumentsAreLeft(t *testing.T) {
	for _, a := range samples() {
		x := roomy(a.x)
		for k, r := range a.repeats {
			at := withRoom(r.At, len(x.Text))
			are(t, "with room behind all", x, api.Repeat{Len: r.Len, At: at}, a.spots[k]...)
			noSpots(t, "with room behind all", x, api.Repeat{Len: len(x.Text) + 1, At: at}, api.ErrFold)
			noSpots(t, "with room behind all", x, api.Repeat{Len: 1, At: at}, api.ErrFold)
			if kept := withRoom(r.At, len(x.Text)); !slices.Equal(whole(at), whole(kept)) {
				t.Fatalf("R5: the places were changed: %v, not %v", whole(at), whole(kept))
			}
			left(t, "Spots", x, a.x)
		}
		for n := -1; n <= len(x.Text)+3; n++ {
			for at := -1; at <= len(x.Text); at++ {
				class.Spot(x, n, at)
			}
		}
		left(t, "Spot", x, a.x)
		wrong := x
		wrong.Entry = len(x.Text)
		noSpot(t, "a wrong Entry", wrong, 2, 0, api.ErrEntry)
		noSpots(t, "a wrong Entry", wrong, a.repeats[0], api.ErrEntry)
		for from := range x.Text {
			class.Kind(x.Text[from:])
			class.Kind(x.Text[:from])
		}
		left(t, "what was refused, and Kind", x, a.x)
	}
}

// TestWhatIsBehindAListIsNotAsked has room behind a list that would be more of it.
func TestWhatIsBehindAListIsNotAsked(t *testing.T) {
	kind(t, "a halt in the spare room", api.Dead, row(in(1), halt)[:1]...)
	x := text(row(in(1), halt, halt, halt)[:2]...)
	noSpot(t, "a halt in the spare room", x, 3, 0, api.ErrArg)
	is(t, "a halt in the spare room", x, 2, tail(0))
	are(t, "places in the spare room", thrice(), stands(4, []int{0, 4, 0}[:2]...), dead(0), dead(4))
}

// TestAnswersAreNew writes over what is told, and asks again; and holds two answers apart.
func TestAnswersAreNew(t *testing.T) {
	for _, a := range samples() {
		x := roomy(a.x)
		for k, r := range a.repeats {
			at := withRoom(r.At, 0)
			first, _ := class.Spots(x, api.Repeat{Len: r.Len, At: at})
			second, _ := class.Spots(x, api.Repeat{Len: r.Len, At: at})
			spoil(first, api.Spot{At: -7, Class: 9, Reg: 9})
			if !slices.Equal(second, a.spots[k]) {
				t.Fatalf("R5: two answers share memory: %v, not %v", second, a.spots[k])
			}
			spoil(at, -5)
			spoil(x.Text, 0)
			if !slices.Equal(second, a.spots[k]) {
				t.Fatalf("R5: an answer has memory of what was handed in: %v, not %v", second, a.spots[k])
			}
			x = roomy(a.x)
			are(t, "behind a spoilt answer", x, r, a.spots[k]...)
			left(t, "an answer has memory of it", x, a.x)
		}
	}
}

// TestNothingIsKept asks images one behind the other, changed ones and wrong ones between them, in the same memory: each is answered as if it were the first.
func TestNothingIsKept(t *testing.T) {
	r := rand.New(rand.NewSource(195))
	l := samples()
	memory := make([]uint32, 100)
	for range 200 {
		a := oneOf(r, l...)
		x := api.Image{Text: memory[:copy(memory, a.x.Text)], Entry: a.x.Entry}
		a.all(t, "between others", x)
		x.Text[r.Intn(len(x.Text)-1)] = oneOf(r, row(1, halt, goTo(15), in(15), out(2, 0), jump(0))...)
		c := tally{}
		for n := 2; n <= 4; n++ {
			plainOf(x).spotAsReckoned(t, c, n, r.Intn(len(x.Text)-n))
		}
		noSpot(t, "nothing", api.Image{}, 2, 0, api.ErrImage)
		noSpots(t, "nothing", api.Image{}, a.repeats[0], api.ErrImage)
		copy(x.Text, a.x.Text)
		a.all(t, "behind others", x)
	}
}

// TestTheMemoryOfAnImage has images whose memory is otherwise: nothing hangs on it.
func TestTheMemoryOfAnImage(t *testing.T) {
	for _, a := range samples() {
		for _, size := range []int{0, 1, api.MaxMemory} {
			a.x.Memory = slices.Repeat([]int64{-3}, size)
			a.all(t, "with a memory", a.x)
		}
	}
}
