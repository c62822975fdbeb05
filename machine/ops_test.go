package machine_test

import (
	"fmt"
	"math"
	"slices"
	"testing"

	"pleat/api"
	"pleat/machine"
)

const (
	least = math.MinInt64
	most  = math.MaxInt64
)

// held is a register and what it holds.
type held struct {
	r uint32
	w api.Word
}

func holds(l ...held) []held { return l }

// standing tells a machine that stands at the place 0 of that code, its registers holding what is asked: what brings that about stands behind the code. One number of the tape, 77, is left.
func standing(t *testing.T, l []held, memory []int64, text ...uint32) *machine.Machine {
	t.Helper()
	x := api.Image{Text: slices.Clone(text), Entry: len(text), Memory: memory}
	var tape []int64
	for _, h := range l {
		if h.w.Code {
			x.Text = append(x.Text, place(h.r, int(h.w.V)))
			continue
		}
		x.Text = append(x.Text, in(h.r))
		tape = append(tape, h.w.V)
	}
	x.Text = append(x.Text, jump(0))
	m := newMachine(t, x, append(tape, 77))
	ahead := len(l) + 1
	if n, s := m.Run(ahead); n != ahead || s != api.Running || m.At() != 0 {
		t.Fatalf("P10.2: %v, %x: %d, %d, at %d on the way to the place 0", l, text, n, s, m.At())
	}
	return m
}

// steps asks for what one step does: change makes what is to be of what was.
func steps(t *testing.T, what string, l []held, memory []int64, w uint32, change func(s *state)) {
	t.Helper()
	m := standing(t, l, memory, w, trap, halt, trap)
	want := seen(t, m)
	change(&want)
	if s := m.Step(); s != want.status {
		t.Errorf("P10.2: %s: Step is %d, not %d", what, s, want.status)
	}
	if got := seen(t, m); !got.is(want) {
		t.Errorf("P10.2: %s: %v, not %v", what, got, want)
	}
}

// goes is a step that changes nothing but where the machine stands.
func goes(to int) func(s *state) {
	return func(s *state) { s.at, s.steps = to, s.steps+1 }
}

// puts is a step that changes one register and goes on at the next place.
func puts(r uint32, w api.Word) func(s *state) {
	return func(s *state) {
		goes(1)(s)
		s.registers[r] = w
	}
}

// faults is a step that is none.
func faults(why int8) func(s *state) {
	return func(s *state) { s.status = why }
}

// links is a step that calls.
func links(to int) func(s *state) {
	return func(s *state) {
		goes(to)(s)
		s.registers[15] = sealed(1)
	}
}

func TestSet(t *testing.T) {
	for _, n := range []int{0, 1, 5, -1, 16383, -16384} {
		for _, d := range []uint32{0, 1, 14, 15} {
			what := fmt.Sprintf("set %d %d", d, n)
			steps(t, what, nil, nil, set(d, n), puts(d, plain(int64(n))))
			steps(t, what+" over a sealed word", holds(held{d, sealed(2)}), nil, set(d, n), puts(d, plain(int64(n))))
		}
	}
}

func TestMove(t *testing.T) {
	for _, w := range []api.Word{plain(0), plain(-7), plain(most), plain(least), sealed(0), sealed(3)} {
		for _, d := range []uint32{0, 1, 15} {
			for _, a := range []uint32{0, 1, 15} {
				what := fmt.Sprintf("move %d %d of %v", d, a, w)
				steps(t, what, holds(held{a, w}), nil, move(d, a), puts(d, w))
				if d != a {
					steps(t, what+" over a sealed word", holds(held{d, sealed(1)}, held{a, w}), nil, move(d, a), puts(d, w))
				}
			}
		}
	}
}

// sum is an op of two numbers and what it makes of them.
type sum struct {
	op      uint32
	a, b, c int64
}

func allSums() []sum {
	return []sum{
		{3, 2, 3, 5}, {3, -2, 2, 0}, {3, most, 1, least}, {3, least, -1, most}, {3, most, most, -2}, {3, least, least, 0},
		{4, 2, 3, -1}, {4, 3, 2, 1}, {4, least, 1, most}, {4, most, -1, least}, {4, 0, least, least}, {4, least, least, 0}, {4, -1, least, most},
		{5, 2, 3, 6}, {5, -2, 3, -6}, {5, most, 2, -2}, {5, least, -1, least}, {5, least, 2, 0}, {5, 1 << 32, 1 << 31, least}, {5, 1 << 32, 1 << 32, 0}, {5, 3037000500, 3037000500, -9223372036709301616}, {5, 0, most, 0},
		{6, 12, 10, 8}, {6, -1, 5, 5}, {6, least, -1, least}, {6, most, least, 0}, {6, -2, -3, -4},
		{7, 12, 10, 14}, {7, -1, 5, -1}, {7, most, least, -1}, {7, 0, 0, 0}, {7, least, 1, least + 1},
		{8, 12, 10, 6}, {8, -1, 5, -6}, {8, most, least, -1}, {8, -1, -1, 0}, {8, least, -1, most},
		{9, 2, 3, 1}, {9, 3, 2, 0}, {9, 3, 3, 0}, {9, -1, 0, 1}, {9, 0, -1, 0}, {9, least, most, 1}, {9, most, least, 0}, {9, least, least, 0}, {9, -5, -4, 1},
		{10, 3, 3, 1}, {10, 3, 4, 0}, {10, 0, 0, 1}, {10, -1, 1, 0}, {10, least, least, 1}, {10, most, least, 0}, {10, 1 << 32, 0, 0},
	}
}

func TestSums(t *testing.T) {
	for _, c := range allSums() {
		what := fmt.Sprintf("the op %d of %d and %d", c.op, c.a, c.b)
		both := holds(held{1, plain(c.a)}, held{2, plain(c.b)})
		for _, d := range []uint32{0, 1, 2, 3, 15} {
			steps(t, fmt.Sprintf("%s into %d", what, d), both, nil, ins(c.op, d, 1, 2, 0), puts(d, plain(c.c)))
		}
		steps(t, what+" over a sealed word", append(both, held{3, sealed(1)}), nil, ins(c.op, 3, 1, 2, 0), puts(3, plain(c.c)))
		steps(t, what+" of the link register", holds(held{15, plain(c.a)}, held{0, plain(c.b)}), nil, ins(c.op, 15, 15, 0, 0), puts(15, plain(c.c)))
		steps(t, what+" with the link register", holds(held{0, plain(c.a)}, held{15, plain(c.b)}), nil, ins(c.op, 1, 0, 15, 0), puts(1, plain(c.c)))
		if c.a == c.b {
			for _, d := range []uint32{1, 2} {
				steps(t, what+" in one register", holds(held{1, plain(c.a)}), nil, ins(c.op, d, 1, 1, 0), puts(d, plain(c.c)))
			}
		}
	}
}

func TestSumsOfSealedWords(t *testing.T) {
	for op := uint32(3); op <= 10; op++ {
		for _, d := range []uint32{0, 1, 2, 3} {
			w := ins(op, d, 1, 2, 0)
			for _, p := range []int64{0, 1, 3} {
				what := fmt.Sprintf("the op %d into %d with @%d", op, d, p)
				for _, n := range []int64{0, p, -1, most} {
					steps(t, what+" ahead", holds(held{1, sealed(p)}, held{2, plain(n)}), nil, w, faults(api.FaultSeal))
					steps(t, what+" behind", holds(held{1, plain(n)}, held{2, sealed(p)}), nil, w, faults(api.FaultSeal))
				}
				equal, other, alone := faults(api.FaultSeal), faults(api.FaultSeal), faults(api.FaultSeal)
				if op == 10 {
					equal, other, alone = puts(d, plain(1)), puts(d, plain(0)), puts(1, plain(1))
				}
				steps(t, what+" twice", holds(held{1, sealed(p)}, held{2, sealed(p)}), nil, w, equal)
				steps(t, what+" and another one", holds(held{1, sealed(p)}, held{2, sealed(2)}), nil, w, other)
				steps(t, what+" in one register", holds(held{1, sealed(p)}), nil, ins(op, 1, 1, 1, 0), alone)
			}
		}
	}
}

// address is a register's number, an N, and the address that they make in a memory of four words; below 0, if they make none.
type address struct {
	a  int64
	n  int
	at int
}

func allAddresses() []address {
	return []address{
		{0, 0, 0}, {0, 3, 3}, {3, 0, 3}, {1, 2, 3}, {5, -5, 0}, {-1, 1, 0}, {-3, 6, 3}, {16384, -16384, 0}, {16387, -16384, 3}, {-16383, 16383, 0}, {-16380, 16383, 3},
		{0, 4, -1}, {4, 0, -1}, {0, -1, -1}, {-1, 0, -1}, {2, 2, -1}, {5, -6, -1}, {0, 16383, -1}, {0, -16384, -1}, {16388, -16384, -1}, {16383, -16384, -1},
		{most, 0, -1}, {least, 0, -1}, {most, 1, -1}, {least, -1, -1}, {most, 16383, -1}, {least, -16384, -1}, {1 << 32, 0, -1}, {1<<32 + 1, 1, -1}, {-1 << 32, 3, -1},
	}
}

func TestLoad(t *testing.T) {
	memory := numbers(11, -12, most, least)
	for _, c := range allAddresses() {
		for _, d := range []uint32{1, 2, 15} {
			change := faults(api.FaultData)
			if c.at >= 0 {
				change = puts(d, plain(memory[c.at]))
			}
			what := fmt.Sprintf("load %d from %d and %d", d, c.a, c.n)
			steps(t, what, holds(held{1, plain(c.a)}), memory, load(d, 1, c.n), change)
			steps(t, what+", no memory", holds(held{1, plain(c.a)}), nil, load(d, 1, c.n), faults(api.FaultData))
			steps(t, what+", a sealed address", holds(held{1, sealed(0)}), memory, load(d, 1, c.n), faults(api.FaultSeal))
			steps(t, what+", a sealed address, no memory", holds(held{1, sealed(2)}), nil, load(d, 1, c.n), faults(api.FaultSeal))
		}
	}
	steps(t, "load over a sealed word", holds(held{2, sealed(1)}), memory, load(2, 0, 1), puts(2, plain(-12)))
}

// stores is a step that changes one word of the memory.
func stores(at int, w api.Word) func(s *state) {
	return func(s *state) {
		goes(1)(s)
		s.memory[at] = w
	}
}

func TestStore(t *testing.T) {
	memory := numbers(11, -12, most, least)
	for _, c := range allAddresses() {
		for _, w := range []api.Word{plain(0), plain(-9), plain(most), plain(least), sealed(0), sealed(2)} {
			change := faults(api.FaultData)
			if c.at >= 0 {
				change = stores(c.at, w)
			}
			what := fmt.Sprintf("store %v at %d and %d", w, c.a, c.n)
			both := holds(held{1, plain(c.a)}, held{2, w})
			steps(t, what, both, memory, store(1, 2, c.n), change)
			steps(t, what+", the link register", holds(held{1, plain(c.a)}, held{15, w}), memory, store(1, 15, c.n), change)
			steps(t, what+", no memory", both, nil, store(1, 2, c.n), faults(api.FaultData))
			sealedA := holds(held{1, sealed(0)}, held{2, w})
			steps(t, what+", a sealed address", sealedA, memory, store(1, 2, c.n), faults(api.FaultSeal))
			steps(t, what+", a sealed address, no memory", sealedA, nil, store(1, 2, c.n), faults(api.FaultSeal))
		}
		if c.at >= 0 {
			steps(t, fmt.Sprintf("store %d at itself and %d", c.a, c.n), holds(held{1, plain(c.a)}), memory, store(1, 1, c.n), stores(c.at, plain(c.a)))
		}
	}
	steps(t, "store a sealed word at itself", holds(held{1, sealed(0)}), memory, store(1, 1, 0), faults(api.FaultSeal))
}

func TestIn(t *testing.T) {
	for _, d := range []uint32{0, 1, 15} {
		takes := func(s *state) {
			puts(d, plain(77))(s)
			s.taken++
		}
		steps(t, fmt.Sprintf("in %d", d), nil, nil, in(d), takes)
		steps(t, fmt.Sprintf("in %d over a sealed word", d), holds(held{d, sealed(1)}), nil, in(d), takes)
	}
	for _, n := range []int64{0, 1, -1, most, least} {
		m := runs(t, "in at the tape's end", imageOf(code(in(1), place(2, 0), in(2), in(2), halt)), numbers(n), 1, 1, api.Running, 1)
		for k, c := range []state{{taken: 1, registers: [16]api.Word{1: plain(n)}}, {taken: 1, registers: [16]api.Word{1: plain(n), 2: sealed(0)}}, {taken: 1, registers: [16]api.Word{1: plain(n)}}, {taken: 1, registers: [16]api.Word{1: plain(n)}}} {
			c.at, c.steps = k+1, k+1
			if got := seen(t, m); !got.is(c) {
				t.Errorf("P10.2: behind the place %d of a tape of one number: %v, not %v", k, got, c)
			}
			m.Step()
		}
	}
	m := runs(t, "in of no tape", imageOf(code(place(1, 0), in(1), trap)), nil, 99, 2, api.FaultEnd, 2)
	if w, _ := m.Register(1); w != plain(0) || m.Taken() != 0 {
		t.Errorf("P10.2: in of no tape: %v, Taken %d", w, m.Taken())
	}
}

func TestOut(t *testing.T) {
	for _, n := range []int{0, 1, -1, 16383, -16384} {
		for _, v := range []int64{0, 5, -5, most, least} {
			tells := func(s *state) {
				goes(1)(s)
				s.ports = append(s.ports, api.Port{N: int64(n), V: v})
			}
			for _, a := range []uint32{0, 1, 15} {
				steps(t, fmt.Sprintf("out %d %d of %d", a, n, v), holds(held{a, plain(v)}), nil, out(a, n), tells)
			}
		}
		for _, a := range []uint32{0, 1, 15} {
			for _, p := range []int64{0, 2} {
				steps(t, fmt.Sprintf("out %d %d of @%d", a, n, p), holds(held{a, sealed(p)}), nil, out(a, n), faults(api.FaultSeal))
			}
		}
	}
	m := runs(t, "out in order", imageOf(code(set(1, 3), out(1, 9), out(0, -9), out(1, 9), place(2, 0), out(2, 9), halt)), nil, 99, 5, api.FaultSeal, 5)
	told(t, "out in order", m, 0, api.Port{N: 9, V: 3}, api.Port{N: -9, V: 0}, api.Port{N: 9, V: 3})
}

func TestJumpAndPlace(t *testing.T) {
	for n := range 5 {
		steps(t, fmt.Sprintf("jump %d", n), holds(held{15, sealed(3)}), nil, jump(n), goes(n))
		for _, d := range []uint32{0, 1, 15} {
			what := fmt.Sprintf("place %d %d", d, n)
			steps(t, what, nil, nil, place(d, n), puts(d, sealed(int64(n))))
			steps(t, what+" over others", holds(held{d, plain(least)}, held{d, sealed(2)}), nil, place(d, n), puts(d, sealed(int64(n))))
		}
	}
}

func TestZero(t *testing.T) {
	for _, a := range []uint32{0, 1, 15} {
		for n := range 4 {
			what := fmt.Sprintf("zero %d %d", a, n)
			steps(t, what+" of 0", holds(held{a, plain(0)}), nil, zero(a, n), goes(n))
			for _, v := range []int64{1, -1, most, least, 1 << 32} {
				steps(t, fmt.Sprintf("%s of %d", what, v), holds(held{a, plain(v)}), nil, zero(a, n), goes(1))
			}
			for _, p := range []int64{0, 1, 3} {
				steps(t, fmt.Sprintf("%s of @%d", what, p), holds(held{a, sealed(p)}), nil, zero(a, n), faults(api.FaultSeal))
			}
		}
	}
}

func TestCallsAndGo(t *testing.T) {
	for n := range 4 {
		for _, before := range []api.Word{plain(0), plain(-3), sealed(0), sealed(3)} {
			steps(t, fmt.Sprintf("call %d over %v", n, before), holds(held{15, before}), nil, call(n), links(n))
		}
		for _, a := range []uint32{0, 1, 15} {
			there := holds(held{a, sealed(int64(n))})
			steps(t, fmt.Sprintf("calls %d of @%d", a, n), there, nil, calls(a), links(n))
			steps(t, fmt.Sprintf("go %d of @%d", a, n), there, nil, goTo(a), goes(n))
			for _, v := range []int64{0, 1, int64(n), -1, most, least} {
				number := holds(held{a, plain(v)})
				steps(t, fmt.Sprintf("calls %d of %d", a, v), number, nil, calls(a), faults(api.FaultSeal))
				steps(t, fmt.Sprintf("go %d of %d", a, v), number, nil, goTo(a), faults(api.FaultSeal))
			}
		}
	}
	steps(t, "calls of a number, the link register sealed", holds(held{15, sealed(3)}), nil, calls(1), faults(api.FaultSeal))
}

func TestEnds(t *testing.T) {
	full := holds(held{1, plain(5)}, held{2, sealed(1)}, held{15, sealed(2)})
	steps(t, "halt", full, numbers(1, 2), halt, func(s *state) { s.status, s.steps = api.Halted, s.steps+1 })
	steps(t, "trap", full, numbers(1, 2), trap, faults(api.FaultEnd))
	for _, w := range []uint32{
		1, 1 << 15, 1 << 19, 1 << 23, 0x4000, // a trap's bits that it does not have
		22 << 27, 23 << 27, 31 << 27, math.MaxUint32, 22<<27 | 1<<23 | 5,
		halt | 1, move(1, 2) | 1, add(1, 1, 1) | 1, set(1, 5) | 1<<19, set(1, 5) | 1<<15, load(1, 0, 0) | 1<<15, store(0, 1, 0) | 1<<23,
		in(1) | 1, out(1, 0) | 1<<23, calls(2) | 1, goTo(2) | 1<<15, goTo(2) | 1<<23,
		jump(0) | 0x4000, zero(1, 0) | 0x4000, call(1) | 0x4000, place(1, 1) | 0x4000, jump(0) | 1<<19, call(0) | 1<<23, place(1, 0) | 1<<15,
	} {
		steps(t, fmt.Sprintf("the word %x", w), full, numbers(1, 2), w, faults(api.FaultIns))
	}
}

// TestSealedWordsGoAround moves places through registers and memory, and goes to them.
func TestSealedWordsGoAround(t *testing.T) {
	kept := code(place(1, 5), store(0, 1, 1), load(2, 0, 1), goTo(2), trap, out(0, 4), halt)
	m := runs(t, "a taken place, kept in memory", imageOf(kept, 8, 9), nil, 99, 6, api.Halted, 6)
	if got := m.Memory(); !slices.Equal(got, []api.Word{plain(8), sealed(5)}) {
		t.Errorf("P10.3: a memory with a sealed word: %v", got)
	}
	back := code(call(3), out(0, 1), halt, store(0, 15, 0), call(6), jump(7), goTo(15), load(15, 0, 0), goTo(15))
	m = runs(t, "a return site, kept in memory over a call", imageOf(back, 8), nil, 99, 9, api.Halted, 2)
	told(t, "a return site, kept in memory over a call", m, 0, api.Port{N: 1})
	round := code(place(15, 3), calls(15), halt, move(1, 15), place(2, 2), same(3, 1, 2), out(3, 7), goTo(1))
	m = runs(t, "calls of the link register", imageOf(round), nil, 99, 8, api.Halted, 2)
	told(t, "calls of the link register", m, 0, api.Port{N: 7, V: 1})
	runs(t, "a sealed word from memory is no number", imageOf(code(place(1, 0), store(0, 1, 0), load(2, 0, 0), zero(2, 0), halt), 0), nil, 99, 3, api.FaultSeal, 3)
	runs(t, "a number from memory is no place", imageOf(code(load(2, 0, 0), goTo(2), halt), 2), nil, 99, 1, api.FaultSeal, 1)
	runs(t, "the link register at the beginning is no place", imageOf(code(goTo(15))), nil, 99, 0, api.FaultSeal, 0)
}
