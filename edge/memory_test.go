package edge_test

import (
	"slices"
	"testing"

	"pleat/api"
	"pleat/edge"
)

// withRoom copies a list, with three more elements of its own behind its end.
func withRoom[T any](list []T, more T) []T {
	return append(append(make([]T, 0, len(list)+3), list...), more, more, more)[:len(list)]
}

// sample tells an image with several leaps, each of which can go to several blocks, and with words behind its text that would be leaps and labels.
func sample() api.Image {
	return api.Image{
		Text:   withRoom([]uint32{place(1, 4), call(6), zero(1, 4), calls(1), set(1, 2), goTo(2), 1, place(2, 0), goTo(15)}, place(1, 1)),
		Entry:  3,
		Memory: withRoom([]int64{1, -2}, 7),
	}
}

func sampleEdges() [][]int {
	return lists(to(4), to(2, 3), to(0, 1, 3), to(0, 1, 3), nil, to(0, 1, 3))
}

func sampleLists() [][]int {
	return withRoom(lists(withRoom(to(1, 0, 1), 2), nil, withRoom(to(1, -1), 0), withRoom(nil, 1), withRoom(to(2, 3, 4, 5), 1)), to(0, 1, 2))
}

// wholly copies lists, with what lies behind the end of them, and of each of them.
func wholly(l [][]int) [][]int {
	all := slices.Clone(l[:cap(l)])
	for k := range all {
		all[k] = slices.Clone(all[k][:cap(all[k])])
	}
	return all
}

func TestImagesAreLeft(t *testing.T) {
	for range 3 {
		x, kept := sample(), sample()
		edges(t, "R5, R6: the sample", x, sampleEdges()...)
		reached(t, "R5, R6: the sample", x, "yyyyyn")
		refused := sample()
		refused.Entry = 9
		edge.Edges(refused)
		edge.Reached(refused)
		for _, given := range []api.Image{x, refused} {
			if !slices.Equal(given.Text[:12], kept.Text[:12]) || !slices.Equal(given.Memory[:5], kept.Memory[:5]) {
				t.Fatalf("R5: the image was changed: %#x, %v", given.Text[:12], given.Memory[:5])
			}
		}
	}
}

func TestListsAreLeft(t *testing.T) {
	l := sampleLists()
	kept := wholly(l)
	for range 3 {
		backs(t, "R5, R6: lists with room behind them", l, to(0), to(0, 2), to(4), to(4), to(4))
		if !alike(wholly(l), kept) {
			t.Fatalf("R5: the lists were changed: %v, not %v", wholly(l), kept)
		}
	}
	got := edge.Back(l)
	spoilAll(l, 3)
	if !alike(got, lists(to(0), to(0, 2), to(4), to(4), to(4))) {
		t.Errorf("R5: Back keeps the lists: %v", got)
	}
	backs(t, "R6: the lists, with other numbers", l, nil, nil, nil, to(0, 2, 4), nil)
}

// spoil writes over all of a list, its spare room too.
func spoil[T any](l []T, with T) {
	l = l[:cap(l)]
	for k := range l {
		l[k] = with
	}
}

func spoilAll(l [][]int, with int) {
	for _, list := range l {
		spoil(list, with)
	}
}

// apart writes over the lists of an answer, one after the other, with their spare room, and tells whether each of the others is left as it was.
func apart(l [][]int) bool {
	want := make([][]int, len(l))
	for k, list := range l {
		want[k] = slices.Clone(list)
	}
	for k, list := range l {
		spoil(list, 1000+k)
		spoil(want[k], 1000+k)
		if !alike(l, want) {
			return false
		}
	}
	spoil(l, nil)
	return true
}

func TestAnswersAreNew(t *testing.T) {
	for what, ask := range map[string]func() [][]int{
		"Edges": func() [][]int { l, _ := edge.Edges(sample()); return l },
		"Back":  func() [][]int { return edge.Back(sampleLists()) },
	} {
		first, second := ask(), ask()
		want := ask()
		if !apart(first) {
			t.Errorf("R5: two lists of one answer of %s share memory", what)
		}
		if !alike(second, want) || !alike(ask(), want) {
			t.Errorf("R5: two answers of %s share memory", what)
		}
	}
	given := sampleLists()
	kept := wholly(given)
	if !apart(edge.Back(given)) || !alike(wholly(given), kept) {
		t.Error("R5: an answer of Back has memory of the lists")
	}
	x := sample()
	first, _ := edge.Edges(x)
	found, _ := edge.Reached(x)
	again, _ := edge.Reached(x)
	spoil(found, true)
	spoil(x.Text, halt)
	if !alike(first, sampleEdges()) || !slices.Equal(again, []bool{true, true, true, true, true, false}) {
		t.Error("R5: an answer has memory of the image, or of another answer")
	}
	reached(t, "R6: the sample, once more", sample(), "yyyyyn")
}
