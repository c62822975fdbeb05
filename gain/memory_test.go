package gain_test

import (
	"math/rand"
	"slices"
	"testing"

	"pleat/api"
	"pleat/gain"
)

// withRoom copies a list, with three more spots of its own behind its end.
func withRoom(l []api.Spot) []api.Spot {
	more := api.Spot{At: -1, Class: api.Spare, Reg: 7}
	return append(append(make([]api.Spot, 0, len(l)+3), l...), more, more, more)[:len(l)]
}

// whole tells a list with its spare room.
func whole(l []api.Spot) []api.Spot { return l[:cap(l)] }

func samples() [][]api.Spot {
	r := rand.New(rand.NewSource(213))
	l := [][]api.Spot{nil, of(api.Tail), of(api.Dead, api.Spare, api.Dead), of(api.None, 9, -1)}
	for size := range 20 {
		l = append(l, drawn(r, size))
	}
	return l
}

func TestArgumentsAreLeft(t *testing.T) {
	for _, l := range samples() {
		for _, n := range []int{0, 1, 2, 9, most, most + 1} {
			given := withRoom(l)
			gain.Of(n, given)
			if was := withRoom(l); !slices.Equal(whole(given), whole(was)) {
				t.Fatalf("R5: Of %d changed the list to %v, it was %v", n, whole(given), whole(was))
			}
		}
		pays(t, "with room behind it", 5, withRoom(l), reckoned(5, l))
	}
}

// TestNothingIsKept asks lists one behind the other, wrong ones between them, in the same memory: each is answered as if it were the first.
func TestNothingIsKept(t *testing.T) {
	r := rand.New(rand.NewSource(214))
	all := samples()
	memory := make([]api.Spot, 20)
	for range 2000 {
		n, sample := 1+r.Intn(8), all[r.Intn(len(all))]
		l := memory[:copy(memory, sample)]
		pays(t, "between others", n, l, reckoned(n, sample))
		pays(t, "no length", 0, l, 0)
		pays(t, "too long", most+1, l, 0)
		pays(t, "behind others", n, l, reckoned(n, sample))
		if len(l) > 0 {
			l[0].Class++
			pays(t, "changed", n, l, reckoned(n, l))
		}
	}
}
