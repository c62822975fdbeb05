package choose_test

import (
	"math/rand"
	"slices"
	"testing"

	"pleat/api"
	"pleat/choose"
)

// withRoom copies a list, with three more elements of its own behind its end.
func withRoom[T any](list []T, more T) []T {
	return append(append(make([]T, 0, len(list)+3), list...), more, more, more)[:len(list)]
}

// whole tells a list with its spare room.
func whole[T any](l []T) []T { return l[:cap(l)] }

// roomy tells an image as it is handed in: with words behind its text that would go on with it, and with a memory.
func roomy(x api.Image) api.Image {
	return api.Image{Text: withRoom(x.Text, x.Text[0]), Entry: x.Entry, Memory: withRoom([]int64{1, -2}, 7)}
}

// spoil writes over all of a list, its spare room too.
func spoil[T any](l []T, with T) {
	for k := range whole(l) {
		whole(l)[k] = with
	}
}

// left holds that an image is as roomy made it.
func left(t *testing.T, what string, given, sample api.Image) {
	t.Helper()
	kept := roomy(sample)
	if given.Entry != kept.Entry || !slices.Equal(whole(given.Text), whole(kept.Text)) || !slices.Equal(whole(given.Memory), whole(kept.Memory)) {
		t.Fatalf("R5: %s: the image was changed: %#x, %d, %v", what, whole(given.Text), given.Entry, whole(given.Memory))
	}
}

// asked is an image, what Best tells of it, and a sequence of it with its fold.
type asked struct {
	x    api.Image
	best api.Fold
	r    api.Repeat
	fold api.Fold
}

// samples are images whose folds are of each class, and one of which none pays.
func samples() []asked {
	return []asked{
		{twiceFour(), fold(4, 1, dead(0), dead(4)), stands(3, 1, 5), fold(3, 0, dead(1), dead(5))},
		{text(outs(0, 2), end(), outs(0, 2), end()), fold(3, 1, tail(0), tail(3)), stands(3, 0, 3), fold(3, 1, tail(0), tail(3))},
		{text(outs(0, 3), row(call(8)), outs(0, 3), row(call(8), halt)), fold(4, 2, thunk(0), thunk(4)), stands(4, 4), fold(4, -1, thunk(4))},
		{text(row(call(2), halt), outs(0, 8), row(in(1)), outs(0, 8), row(goTo(15))), fold(8, 1, spare(2, 0), spare(11, 0)), stands(4, 3, 12), fold(4, -3, spare(3, 0), spare(12, 0))},
		{text(slices.Repeat(outs(0, 1), 7), end()), api.Fold{}, stands(2, 0, 1, 2, 3, 4, 5), fold(2, 0, dead(0), dead(2), dead(4))},
	}
}

// holds holds all that is known of a sample, told by x.
func (a asked) holds(t *testing.T, what string, x api.Image) {
	t.Helper()
	folds(t, what, x, a.r, a.fold)
	if len(a.best.Spots) == 0 {
		noBest(t, what, x, api.OK)
		return
	}
	best(t, what, x, a.best)
}

func TestArgumentsAreLeft(t *testing.T) {
	for _, a := range samples() {
		x := roomy(a.x)
		a.holds(t, "with room behind all", x)
		left(t, "Fold and Best", x, a.x)
		at := withRoom(a.r.At, len(x.Text))
		folds(t, "with room behind all", x, api.Repeat{Len: a.r.Len, At: at}, a.fold)
		refuses(t, "too long a sequence", x, api.Repeat{Len: len(x.Text) + 1, At: at}, api.ErrFold)
		refuses(t, "too short a sequence", x, api.Repeat{Len: 1, At: at}, api.ErrFold)
		if kept := withRoom(a.r.At, len(x.Text)); !slices.Equal(whole(at), whole(kept)) {
			t.Fatalf("R5: the places were changed: %v, not %v", whole(at), whole(kept))
		}
		left(t, "what was refused", x, a.x)
		wrong := x
		wrong.Entry = len(x.Text)
		noBest(t, "a wrong Entry", wrong, api.ErrEntry)
		refuses(t, "a wrong Entry", wrong, a.r, api.ErrEntry)
		left(t, "a wrong Entry", x, a.x)
	}
}

func TestFoldsAreLeft(t *testing.T) {
	for _, a := range samples() {
		for _, b := range samples() {
			one, other := a.fold, b.fold
			one.Spots, other.Spots = withRoom(one.Spots, tail(-3)), withRoom(other.Spots, tail(-4))
			better(t, "with room behind the spots", one, other, -byRule(a.fold, b.fold))
			if !slices.Equal(whole(one.Spots), whole(withRoom(a.fold.Spots, tail(-3)))) || !slices.Equal(whole(other.Spots), whole(withRoom(b.fold.Spots, tail(-4)))) {
				t.Fatalf("R5: Better changed the spots: %v, %v", whole(one.Spots), whole(other.Spots))
			}
		}
	}
	better(t, "spots in the spare room", fold(5, 3, at(0, 4)[:0]...), fold(5, 3, at(9)...), -1)
}

// TestAnswersAreNew writes over what is told, and asks again; and holds two answers apart.
func TestAnswersAreNew(t *testing.T) {
	for _, a := range samples() {
		x, at := roomy(a.x), withRoom(a.r.At, 0)
		r := api.Repeat{Len: a.r.Len, At: at}
		tell := func() [2]api.Fold {
			one, _ := choose.Fold(x, r)
			other, _, _ := choose.Best(x)
			return [2]api.Fold{one, other}
		}
		first, second := tell(), tell()
		spoil(first[0].Spots, api.Spot{At: -7, Class: 9, Reg: 9})
		spoil(first[1].Spots, api.Spot{At: -8, Class: 8, Reg: 8})
		if !alike(second[0], a.fold) || !alike(second[1], a.best) {
			t.Fatalf("R5: two answers share memory: %v", second)
		}
		left(t, "an answer has memory of it", x, a.x)
		spoil(at, -5)
		spoil(x.Text, 0)
		if !alike(second[0], a.fold) || !alike(second[1], a.best) {
			t.Fatalf("R5: an answer has memory of what was handed in: %v", second)
		}
		a.holds(t, "behind a spoilt answer", roomy(a.x))
	}
}

// TestNothingIsKept asks images one behind the other, changed ones and wrong ones between them, in the same memory: each is answered as if it were the first.
func TestNothingIsKept(t *testing.T) {
	r := rand.New(rand.NewSource(229))
	l, c := samples(), tally{}
	memory := make([]uint32, 100)
	for range 300 {
		a := oneOf(r, l...)
		x := api.Image{Text: memory[:copy(memory, a.x.Text)], Entry: a.x.Entry}
		a.holds(t, "between others", x)
		x.Text[r.Intn(len(x.Text)-1)] = oneOf(r, row(1, halt, goTo(15), in(15), out(2, 0), jump(0))...)
		asReckoned(t, c, x)
		noBest(t, "nothing", api.Image{}, api.ErrImage)
		refuses(t, "nothing", api.Image{}, a.r, api.ErrImage)
		copy(x.Text, a.x.Text)
		a.holds(t, "behind others", x)
	}
}

// TestTheMemoryOfAnImage has images whose memory is otherwise: nothing hangs on it.
func TestTheMemoryOfAnImage(t *testing.T) {
	for _, a := range samples() {
		for _, size := range []int{0, 1, api.MaxMemory} {
			a.x.Memory = slices.Repeat([]int64{-3}, size)
			a.holds(t, "with a memory", a.x)
		}
	}
}
