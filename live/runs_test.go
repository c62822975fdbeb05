package live_test

import (
	"math/rand"
	"slices"
	"testing"

	"pleat/api"
	"pleat/live"
	"pleat/machine"
)

// livelyWord tells a word of a text of that size: the registers 1, 2 and 15 often hold places, 3, 4 and 5 numbers: so runs go far.
func livelyWord(r *rand.Rand, size int) uint32 {
	n, d, a := r.Intn(size), oneOf[uint32](r, 1, 2, 15), oneOf[uint32](r, 1, 2, 15)
	number, other := oneOf[uint32](r, 3, 4, 5), oneOf[uint32](r, 3, 4, 5)
	return oneOf(r,
		place(d, n), place(1, n), move(d, a), move(number, other), set(number, r.Intn(2)), set(number, r.Intn(2)), set(d, 1), in(number), in(number), in(other),
		store(0, a, r.Intn(2)), store(0, number, 1), load(number, 0, r.Intn(2)), add(number, number, other), ins(9, number, other, number, 0), out(number), out(other),
		jump(n), zero(number, n), zero(number, n), call(n), call(n), calls(a), goTo(a), goTo(15), tossedWord(r, size),
	)
}

// lively tells a small image whose run has somewhere to go.
func lively(r *rand.Rand) api.Image {
	size := 6 + r.Intn(14)
	x := api.Image{Entry: r.Intn(size), Memory: []int64{1, 0}}
	for range size - 1 {
		x.Text = append(x.Text, livelyWord(r, size))
	}
	x.Text = append(x.Text, oneOf(r, trap, jump(r.Intn(size)), jump(r.Intn(size)), goTo(oneOf[uint32](r, 1, 2, 15)), halt))
	return x
}

func tape(r *rand.Rand) []int64 {
	l := make([]int64, r.Intn(9))
	for k := range l {
		l[k] = r.Int63n(2)
	}
	return l
}

// beginning is what the registers hold: a place, where it is sealed, else a number.
type beginning struct {
	places, numbers [16]int
	sealed          [16]bool
}

func begin(r *rand.Rand, size int) beginning {
	var b beginning
	// Each of these places is taken: few of them leave more registers dead.
	some := []int{r.Intn(size), r.Intn(size)}
	for k := range 16 {
		b.places[k], b.numbers[k], b.sealed[k] = oneOf(r, some...), r.Intn(2), r.Intn(8) == 0
	}
	for _, k := range []int{1, 2, 15} {
		b.sealed[k] = r.Intn(8) > 0
	}
	return b
}

// changed tells b with those registers changed that are in the set.
func (b beginning) changed(r *rand.Rand, set uint16) beginning {
	for k := range 16 {
		if set>>k&1 == 0 {
			continue
		}
		if r.Intn(2) == 0 {
			b.sealed[k] = !b.sealed[k]
		}
		b.numbers[k] = 2 + r.Intn(9)
	}
	return b
}

// from tells x with words behind its text that begin the registers, and go to that place then. Whatever they begin with, its words name the same places.
func from(x api.Image, at int, b beginning) api.Image {
	y := api.Image{Text: slices.Clone(x.Text), Entry: len(x.Text), Memory: x.Memory}
	for k := range 16 {
		both := []uint32{place(uint32(k), b.places[k]), set(uint32(k), b.numbers[k])}
		if b.sealed[k] {
			slices.Reverse(both)
		}
		y.Text = append(y.Text, both...)
	}
	y.Text = append(y.Text, jump(at))
	return y
}

func begunMachine(t *testing.T, x api.Image, numbers []int64) *machine.Machine {
	t.Helper()
	m, e := machine.New(x, numbers)
	if e != api.OK {
		t.Fatalf("%#x, Entry %d: no machine: %d", x.Text, x.Entry, e)
	}
	return m
}

func seenAlike(m, o *machine.Machine) bool {
	return m.Status() == o.Status() && m.At() == o.At() && m.Steps() == o.Steps() && m.Taken() == o.Taken()
}

// alike runs both, side by side, and tells whether all that is seen of them but registers is the same, and how many steps were made.
func alike(m, o *machine.Machine, most int) (bool, int) {
	for range most {
		if m.Step(); o.Step() != m.Status() || !seenAlike(m, o) {
			return false, m.Steps()
		}
	}
	return slices.Equal(m.Memory(), o.Memory()) && slices.Equal(m.Ports(), o.Ports()), m.Steps()
}

// readSomewhere tells the registers that some word of the text reads.
func readSomewhere(x api.Image) uint16 {
	var set uint16
	for _, w := range x.Text {
		for k := range 16 {
			if taken(w).reads(k) {
				set |= of(uint32(k))
			}
		}
	}
	return set
}

// TestRunsFromAPlace runs images from each of their places, with what is dead there as it is, and changed: they run on alike. With what is live there changed many do not.
func TestRunsFromAPlace(t *testing.T) {
	r := rand.New(rand.NewSource(145))
	far, readElsewhere, differ := 0, 0, 0
	for range 3000 {
		x := lively(r)
		numbers := tape(r)
		for at := range x.Text {
			b := begin(r, len(x.Text))
			y := from(x, at, b)
			l, e := live.Behind(y)
			if e != api.OK || len(l) != len(y.Text) {
				t.Fatalf("P14.2: %#x: Behind tells %d sets, %d", y.Text, len(l), e)
			}
			alive := l[len(l)-1]
			z := from(x, at, b.changed(r, ^alive))
			same, steps := alike(begunMachine(t, y, numbers), begunMachine(t, z, numbers), 33+40)
			if !same {
				t.Fatalf("What follows: %#x and %#x, Entry %d, tape %v: the runs differ by what is dead at the place %d: all but %d", y.Text, z.Text, y.Entry, numbers, at, alive)
			}
			if steps > 33+8 {
				far++
			}
			if readSomewhere(x)&^alive != 0 {
				readElsewhere++
			}
			other := from(x, at, b.changed(r, alive))
			if same, _ := alike(begunMachine(t, y, numbers), begunMachine(t, other, numbers), 33+40); !same {
				differ++
			}
		}
	}
	if far < 5000 || readElsewhere < 5000 || differ < 5000 {
		t.Errorf("only %d runs went far, of only %d was something dead that is read somewhere, only %d differed by what is live", far, readElsewhere, differ)
	}
}

// TestRunsWithOtherSets changes words that set a register which is dead behind them, so that the machine stands there with another number, or with a place, each time.
func TestRunsWithOtherSets(t *testing.T) {
	r := rand.New(rand.NewSource(146))
	met, places := 0, 0
	for range 20000 {
		x := lively(r)
		numbers := tape(r)
		l, _ := live.Behind(x)
		y := api.Image{Text: slices.Clone(x.Text), Entry: x.Entry, Memory: x.Memory}
		named := -1
		for p, w := range x.Text {
			switch i := taken(w); {
			case i.is(api.Place):
				named = i.n
			case i.is(api.Set) && l[p]>>i.d&1 == 0 && named >= 0 && r.Intn(2) == 0:
				// A label that is taken anyway: so control can go no further.
				y.Text[p] = place(uint32(i.d), named)
				places++
			case i.is(api.Set) && l[p]>>i.d&1 == 0:
				y.Text[p] = set(uint32(i.d), 2+r.Intn(9))
			}
		}
		m, o := begunMachine(t, x, numbers), begunMachine(t, y, numbers)
		for range 50 {
			if x.Text[m.At()] != y.Text[m.At()] {
				met++
			}
			if same, _ := alike(m, o, 1); !same {
				t.Fatalf("What follows: %#x and %#x, Entry %d, tape %v: the runs differ at %d by what is dead", x.Text, y.Text, x.Entry, numbers, m.At())
			}
		}
	}
	if met < 10000 || places < 1000 {
		t.Errorf("only %d steps were otherwise, only %d words were changed to a place", met, places)
	}
}

// free tells which numbers of the tape x takes into registers that are dead then.
func free(t *testing.T, x api.Image, numbers []int64, l []uint16) []int {
	t.Helper()
	var found []int
	m := begunMachine(t, x, numbers)
	for range 60 {
		at, k := m.At(), m.Taken()
		m.Step()
		if i := taken(x.Text[at]); m.Taken() > k && l[at]>>i.d&1 == 0 {
			found = append(found, k)
		}
	}
	return found
}

// TestRunsWithOtherTapes changes numbers that are taken into registers which are dead then, in the midst of a run.
func TestRunsWithOtherTapes(t *testing.T) {
	r := rand.New(rand.NewSource(147))
	met := 0
	for range 20000 {
		x := lively(r)
		numbers := tape(r)
		l, _ := live.Behind(x)
		others := slices.Clone(numbers)
		for _, k := range free(t, x, numbers, l) {
			others[k] = 2 + r.Int63n(9)
			met++
		}
		if same, _ := alike(begunMachine(t, x, numbers), begunMachine(t, x, others), 60); !same {
			t.Fatalf("What follows: %#x, Entry %d: the runs with the tapes %v and %v differ by what is dead", x.Text, x.Entry, numbers, others)
		}
	}
	if met < 5000 {
		t.Errorf("only %d numbers were otherwise", met)
	}
}

// TestALiveOneMakesADifference has known programs whose first word sets a register that is live behind it, or that is dead: only then another number is not seen.
func TestALiveOneMakesADifference(t *testing.T) {
	for _, c := range []struct {
		what    string
		x       api.Image
		differs bool
	}{
		{"told at a port", text(set(3, 5), out(3), halt), true},
		{"told behind jumps", text(set(3, 5), jump(3), out(3), jump(2)), true},
		{"told once, then written", text(set(3, 5), out(3), set(3, 1), halt), true},
		{"stored", text(set(3, 1), store(0, 3, 0), halt), true},
		{"an address", text(set(3, 1), store(3, 0, 0), load(4, 3, 0), halt), true},
		{"asked whether it is 0", text(set(3, 0), zero(3, 3), halt, trap), true},
		{"told by a function", text(set(3, 5), call(3), halt, out(3), goTo(15)), true},
		{"told behind a call", text(set(3, 5), call(4), out(3), halt, goTo(15)), true},
		{"told when the loop has gone round", text(set(3, 5), zero(4, 3), halt, set(4, 1), out(3), jump(1)), true},
		{"moved on", text(set(3, 5), move(4, 3), set(3, 1), out(4), halt), true},
		{"read and written by one word", text(set(3, 5), add(3, 3, 3), out(3), halt), true},
		{"written ahead", text(set(3, 5), set(3, 6), out(3), halt), false},
		{"written by a function", text(set(3, 5), call(4), out(3), halt, in(3), goTo(15)), false},
		{"read where nobody comes", text(set(3, 5), jump(3), out(3), halt), false},
		{"never read", text(set(3, 5), jump(1), out(3), goTo(15)), false},
		{"the link register, which a call writes", text(set(15, 5), call(3), halt, goTo(15)), false},
	} {
		c.x.Memory = []int64{7, 8, 9, 10}
		l, e := live.Behind(c.x)
		i := taken(c.x.Text[0])
		if e != api.OK || len(l) == 0 || l[0]>>i.d&1 == 1 != c.differs {
			t.Errorf("P14.2: %s: Behind is %v, %d", c.what, l, e)
		}
		y := c.x
		y.Text = slices.Clone(c.x.Text)
		y.Text[0] = set(uint32(i.d), i.n+2)
		if same, _ := alike(begunMachine(t, c.x, nil), begunMachine(t, y, nil), 20); same == c.differs {
			t.Errorf("What follows: %s: with another number it runs alike: %v", c.what, same)
		}
	}
}
