package machine_test

import (
	"fmt"
	"math"
	"reflect"
	"slices"
	"testing"

	"pleat/api"
	"pleat/machine"
)

const (
	trap = 0
	halt = 21 << 27
)

// ins tells a word by the bits that chapter 2 says.
func ins(op, d, a, b uint32, n int) uint32 {
	return op<<27 | d<<23 | a<<19 | b<<15 | uint32(n)&0x7fff
}

func set(d uint32, n int) uint32      { return ins(1, d, 0, 0, n) }
func move(d, a uint32) uint32         { return ins(2, d, a, 0, 0) }
func add(d, a, b uint32) uint32       { return ins(3, d, a, b, 0) }
func same(d, a, b uint32) uint32      { return ins(10, d, a, b, 0) }
func load(d, a uint32, n int) uint32  { return ins(11, d, a, 0, n) }
func store(a, b uint32, n int) uint32 { return ins(12, 0, a, b, n) }
func in(d uint32) uint32              { return ins(13, d, 0, 0, 0) }
func out(a uint32, n int) uint32      { return ins(14, 0, a, 0, n) }
func jump(n int) uint32               { return ins(15, 0, 0, 0, n) }
func zero(a uint32, n int) uint32     { return ins(16, 0, a, 0, n) }
func call(n int) uint32               { return ins(17, 0, 0, 0, n) }
func calls(a uint32) uint32           { return ins(18, 0, a, 0, 0) }
func goTo(a uint32) uint32            { return ins(19, 0, a, 0, 0) }
func place(d uint32, n int) uint32    { return ins(20, d, 0, 0, n) }

func plain(v int64) api.Word  { return api.Word{V: v} }
func sealed(p int64) api.Word { return api.Word{V: p, Code: true} }

func code(words ...uint32) []uint32 { return words }

func numbers(n ...int64) []int64 { return n }

func imageOf(text []uint32, memory ...int64) api.Image { return api.Image{Text: text, Memory: memory} }

// state is all that can be seen of a machine.
type state struct {
	status           int8
	at, steps, taken int
	registers        [16]api.Word
	memory           []api.Word
	ports            []api.Port
}

// copied tells s with lists of its own, of which none is nil.
func (s state) copied() state {
	s.memory = append([]api.Word{}, s.memory...)
	s.ports = append([]api.Port{}, s.ports...)
	return s
}

func (s state) is(other state) bool { return reflect.DeepEqual(s.copied(), other.copied()) }

func seen(t *testing.T, m *machine.Machine) state {
	t.Helper()
	s := state{status: m.Status(), at: m.At(), steps: m.Steps(), taken: m.Taken(), memory: m.Memory(), ports: m.Ports()}
	for r := range s.registers {
		w, e := m.Register(r)
		if e != api.OK {
			t.Fatalf("P10.3: Register(%d): error %d", r, e)
		}
		s.registers[r] = w
	}
	return s.copied()
}

// beginning tells how a machine of that image stands at its beginning.
func beginning(x api.Image) state {
	s := state{at: x.Entry}
	for _, v := range x.Memory {
		s.memory = append(s.memory, plain(v))
	}
	return s.copied()
}

func newMachine(t *testing.T, x api.Image, tape []int64) *machine.Machine {
	t.Helper()
	m, e := machine.New(x, tape)
	if e != api.OK || m == nil {
		t.Fatalf("P10.1: New(%.200x): error %d", x, e)
	}
	return m
}

// runs asks for how a run of at most so many steps ends, and hands on its machine.
func runs(t *testing.T, what string, x api.Image, tape []int64, most, steps int, status int8, at int) *machine.Machine {
	t.Helper()
	m := newMachine(t, x, tape)
	n, s := m.Run(most)
	if n != steps || s != status {
		t.Errorf("P10.2: %s: Run(%d) is %d, %d; not %d, %d", what, most, n, s, steps, status)
	}
	if m.Steps() != steps || m.Status() != status || m.At() != at {
		t.Errorf("P10.3: %s: Steps %d, Status %d, At %d; not %d, %d, %d", what, m.Steps(), m.Status(), m.At(), steps, status, at)
	}
	return m
}

func told(t *testing.T, what string, m *machine.Machine, taken int, ports ...api.Port) {
	t.Helper()
	if m.Taken() != taken {
		t.Errorf("P10.3: %s: Taken is %d, not %d", what, m.Taken(), taken)
	}
	if got := m.Ports(); !slices.Equal(got, ports) {
		t.Errorf("P10.3: %s: Ports are %v, not %v", what, got, ports)
	}
}

func TestExamples(t *testing.T) {
	m := runs(t, "out", imageOf(code(set(1, 5), out(1, 2), halt)), nil, 99, 3, api.Halted, 2)
	told(t, "out", m, 0, api.Port{N: 2, V: 5})
	runs(t, "call", imageOf(code(call(2), halt, goTo(15), trap)), nil, 99, 3, api.Halted, 1)
	runs(t, "seal", imageOf(code(place(1, 0), add(2, 1, 1), trap)), nil, 99, 1, api.FaultSeal, 1)
	runs(t, "data", imageOf(code(set(1, -1), load(2, 1, 0), trap), 0, 0, 0, 0), nil, 99, 1, api.FaultData, 1)
	m = runs(t, "in", imageOf(code(in(1), in(1), out(1, 0), trap)), numbers(7), 99, 3, api.FaultEnd, 3)
	told(t, "in", m, 1, api.Port{N: 0, V: 0})
	runs(t, "round", imageOf(code(jump(0), trap)), nil, 10, 10, api.Running, 0)
}

// TestWholeExamples has those examples of DOC.md that are runs.
func TestWholeExamples(t *testing.T) {
	m := runs(t, "the second one", imageOf(code(set(1, 5), out(1, 2), halt, trap), 0, 0, 0, 0), nil, 99, 3, api.Halted, 2)
	told(t, "the second one", m, 0, api.Port{N: 2, V: 5})
	m = runs(t, "the fourth one", imageOf(code(place(1, 0), place(2, 0), same(3, 1, 2), halt)), nil, 99, 4, api.Halted, 3)
	if w, e := m.Register(3); w != plain(1) || e != api.OK {
		t.Errorf("the fourth one: Register(3) is %v, %d; not 1", w, e)
	}
	four := code(set(1, 5), add(1, 1, 1), out(1, 0), out(1, 1))
	ports := []api.Port{{N: 0, V: 10}, {N: 1, V: 10}, {N: 0, V: 10}, {N: 1, V: 10}}
	m = runs(t, "the sixth one, plain", imageOf(slices.Concat(four, four, code(halt))), nil, 99, 9, api.Halted, 8)
	told(t, "the sixth one, plain", m, 0, ports...)
	m = runs(t, "the sixth one, folded", imageOf(slices.Concat(code(call(3), call(3), halt), four, code(goTo(15)))), nil, 99, 13, api.Halted, 2)
	told(t, "the sixth one, folded", m, 0, ports...)
}

func allHalts(size int) []uint32 {
	text := make([]uint32, size)
	for p := range text {
		text[p] = halt
	}
	return text
}

func TestNewRefusesImages(t *testing.T) {
	fine := code(halt)
	for _, c := range []struct {
		what string
		x    api.Image
		e    api.Errno
	}{
		{"nothing", api.Image{}, api.ErrImage},
		{"no text", imageOf(code(), 1, 2), api.ErrImage},
		{"too large a text", imageOf(allHalts(16385)), api.ErrLarge},
		{"too large a memory", imageOf(fine, make([]int64, 4097)...), api.ErrData},
		{"an entry below", api.Image{Text: fine, Entry: -1}, api.ErrEntry},
		{"an entry beyond", api.Image{Text: fine, Entry: 1}, api.ErrEntry},
		{"a jump beyond", imageOf(code(jump(2), halt)), api.ErrPlace},
		{"a zero beyond", imageOf(code(zero(0, 2), halt)), api.ErrPlace},
		{"a call beyond", imageOf(code(call(2), halt)), api.ErrPlace},
		{"a place beyond", imageOf(code(place(1, 2), halt)), api.ErrPlace},
		{"a set at the end", imageOf(code(halt, set(1, 5))), api.ErrImage},
		{"a call at the end", imageOf(code(halt, call(0))), api.ErrImage},
		{"a calls at the end", imageOf(code(halt, calls(1))), api.ErrImage},
		{"a zero at the end", imageOf(code(halt, zero(1, 0))), api.ErrImage},
		{"no instruction at the end", imageOf(code(halt, 1)), api.ErrImage},
	} {
		for _, tape := range []int{0, 1, 4096, 4097, 9999} {
			if m, e := machine.New(c.x, make([]int64, tape)); m != nil || e != c.e {
				t.Errorf("P10.1: %s, a tape of %d: %v, error %d; not error %d", c.what, tape, m != nil, e, c.e)
			}
		}
	}
}

func TestNewTapes(t *testing.T) {
	x := imageOf(code(in(1), out(1, 0), jump(0)))
	for _, tape := range []int{4097, 4098, 8192, 1 << 16} {
		if m, e := machine.New(x, make([]int64, tape)); m != nil || e != api.ErrMany {
			t.Errorf("P10.1: a tape of %d: %v, error %d; not error %d", tape, m != nil, e, api.ErrMany)
		}
	}
	tape := make([]int64, 4096)
	for k := range tape {
		tape[k] = int64(k*k) - 5
	}
	for _, size := range []int{0, 1, 4095, 4096} {
		m := newMachine(t, x, tape[:size])
		if m.Run(3 * (size + 2)); m.Taken() != size {
			t.Errorf("P10.3: of a tape of %d %d were taken", size, m.Taken())
		}
		for k, p := range m.Ports() {
			want := int64(0)
			if k < size {
				want = tape[k]
			}
			if p != (api.Port{V: want}) {
				t.Fatalf("P10.2: of a tape of %d the number %d is %v, not %d", size, k, p, want)
			}
		}
	}
}

func TestNewStandsAtItsBeginning(t *testing.T) {
	long := allHalts(16384)
	for what, x := range map[string]api.Image{
		"one word":        imageOf(code(halt)),
		"one trap":        imageOf(code(trap)),
		"a memory":        imageOf(code(halt), 0, 1, -1, math.MaxInt64, math.MinInt64),
		"the last entry":  {Text: code(halt, trap, jump(0)), Entry: 2, Memory: numbers(7)},
		"all the memory":  imageOf(code(halt), slices.Repeat(numbers(3, 4), 2048)...),
		"all the text":    {Text: long, Entry: 16383},
		"no instructions": imageOf(code(1, 22<<27, math.MaxUint32, halt)),
	} {
		for _, tape := range [][]int64{nil, {}, numbers(1, 2, 3)} {
			m := newMachine(t, x, tape)
			if got := seen(t, m); !got.is(beginning(x)) {
				t.Errorf("P10.1: %s: the machine begins as %.200v", what, got)
			}
		}
	}
}

func TestRegister(t *testing.T) {
	x := imageOf(code(set(0, 7), place(15, 2), halt))
	m := newMachine(t, x, nil)
	for range 4 {
		for _, r := range []int{-1, 16, 17, 31, 256, -16, math.MaxInt, math.MinInt} {
			if w, e := m.Register(r); w != (api.Word{}) || e != api.ErrArg {
				t.Errorf("P10.3: Register(%d) is %v, %d; not error %d", r, w, e, api.ErrArg)
			}
		}
		m.Step()
	}
	for r, want := range map[int]api.Word{0: plain(7), 1: plain(0), 14: plain(0), 15: sealed(2)} {
		if w, e := m.Register(r); w != want || e != api.OK {
			t.Errorf("P10.3: Register(%d) is %v, %d; not %v", r, w, e, want)
		}
	}
}

// TestNoMachine asks a nil machine, and one that New did not make.
func TestNoMachine(t *testing.T) {
	for what, m := range map[string]*machine.Machine{"nil": nil, "made by hand": {}} {
		for range 2 {
			if s := m.Step(); s != 0 {
				t.Errorf("R3: %s: Step is %d", what, s)
			}
			for _, most := range []int{math.MinInt, -1, 0, 1, 10, math.MaxInt} {
				if n, s := m.Run(most); n != 0 || s != 0 {
					t.Errorf("R3: %s: Run(%d) is %d, %d", what, most, n, s)
				}
			}
			if m.Status() != 0 || m.At() != 0 || m.Steps() != 0 || m.Taken() != 0 {
				t.Errorf("R3: %s: Status %d, At %d, Steps %d, Taken %d", what, m.Status(), m.At(), m.Steps(), m.Taken())
			}
			for _, r := range []int{-1, 0, 15, 16} {
				if w, e := m.Register(r); w != (api.Word{}) || e != api.ErrArg {
					t.Errorf("R3: %s: Register(%d) is %v, %d", what, r, w, e)
				}
			}
			if len(m.Memory()) != 0 || len(m.Ports()) != 0 {
				t.Errorf("R3: %s: Memory %v, Ports %v", what, m.Memory(), m.Ports())
			}
		}
	}
}

// TestEnded asks machines that have ended to go on.
func TestEnded(t *testing.T) {
	busy := func(last ...uint32) []uint32 {
		return slices.Concat(code(in(1), set(2, 1), store(2, 1, 0), out(1, 3), place(15, 0)), last, code(trap))
	}
	for _, c := range []struct {
		what   string
		text   []uint32
		steps  int
		status int8
	}{
		{"halt", busy(halt), 6, api.Halted},
		{"trap", busy(), 5, api.FaultEnd},
		{"no instruction", busy(1), 5, api.FaultIns},
		{"seal", busy(out(15, 0)), 5, api.FaultSeal},
		{"data", busy(load(1, 0, -1)), 5, api.FaultData},
	} {
		m := runs(t, c.what, imageOf(c.text, 0, 0), numbers(9, 8), 99, c.steps, c.status, 5)
		before := seen(t, m)
		for _, most := range []int{math.MinInt, -1, 0, 1, 2, 99, math.MaxInt} {
			if s := m.Step(); s != c.status {
				t.Errorf("P10.2: %s: Step of what has ended is %d, not %d", c.what, s, c.status)
			}
			if n, s := m.Run(most); n != 0 || s != c.status {
				t.Errorf("P10.2: %s: Run(%d) of what has ended is %d, %d; not 0, %d", c.what, most, n, s, c.status)
			}
		}
		if after := seen(t, m); !after.is(before) {
			t.Errorf("P10.2: %s: what has ended went on: %v, not %v", c.what, after, before)
		}
	}
}

func TestRunMost(t *testing.T) {
	halts := imageOf(code(set(1, 5), jump(2), out(1, 2), halt))
	faults := imageOf(code(set(1, 5), jump(2), out(1, 2), trap))
	for _, c := range []struct {
		most, steps, at int
		status          int8
	}{
		{math.MinInt, 0, 0, api.Running}, {-2, 0, 0, api.Running}, {-1, 0, 0, api.Running}, {0, 0, 0, api.Running},
		{1, 1, 1, api.Running}, {2, 2, 2, api.Running}, {3, 3, 3, api.Running},
		{4, 4, 3, api.Halted}, {5, 4, 3, api.Halted}, {math.MaxInt, 4, 3, api.Halted},
	} {
		runs(t, "it halts", halts, nil, c.most, c.steps, c.status, c.at)
		// The fault is met by the fourth Step, which is no step.
		steps, status := c.steps, c.status
		if status == api.Halted {
			steps, status = 3, api.FaultEnd
		}
		runs(t, "it faults", faults, nil, c.most, steps, status, c.at)
	}
}

func TestRunTellsItsOwnSteps(t *testing.T) {
	m := newMachine(t, imageOf(code(set(1, 1), set(1, 2), set(1, 3), set(1, 4), halt)), nil)
	m.Step()
	for k, c := range []struct {
		most, steps, all int
		status           int8
	}{
		{2, 2, 3, api.Running}, {-5, 0, 3, api.Running}, {0, 0, 3, api.Running}, {1, 1, 4, api.Running}, {9, 1, 5, api.Halted}, {9, 0, 5, api.Halted},
	} {
		if n, s := m.Run(c.most); n != c.steps || s != c.status || m.Steps() != c.all {
			t.Errorf("P10.2: the Run %d: %d, %d and %d in all; not %d, %d and %d", k, n, s, m.Steps(), c.steps, c.status, c.all)
		}
	}
}

// TestLongRun counts down from a million.
func TestLongRun(t *testing.T) {
	x := imageOf(code(in(1), set(2, 1), zero(1, 5), ins(4, 1, 1, 2, 0), jump(2), out(1, 0), halt))
	m := runs(t, "counting down", x, numbers(1000000), math.MaxInt, 3000005, api.Halted, 6)
	told(t, "counting down", m, 1, api.Port{})
}

// withRoom copies a list, with two more elements behind its end.
func withRoom[T any](list []T, more T) []T {
	return append(append(make([]T, 0, len(list)+2), list...), more, more)[:len(list)]
}

// spoil fills a list up to the end of its room.
func spoil[T any](list []T, with T) {
	list = list[:cap(list)]
	for k := range list {
		list[k] = with
	}
}

func TestArgumentsAreNeitherChangedNorKept(t *testing.T) {
	text := code(in(1), in(2), store(0, 1, 0), load(3, 0, 1), out(2, 1), out(3, 2), halt)
	want := newMachine(t, imageOf(text, 5, 6), numbers(7, 8))
	want.Run(99)
	for spoilAt := range 8 {
		given := imageOf(withRoom(text, 1), withRoom(numbers(5, 6), 77)...)
		tape := withRoom(numbers(7, 8), 88)
		m := newMachine(t, given, tape)
		m.Run(spoilAt)
		if !slices.Equal(given.Text[:cap(given.Text)], append(slices.Clone(text), 1, 1)) || !slices.Equal(given.Memory[:cap(given.Memory)], numbers(5, 6, 77, 77)) || !slices.Equal(tape[:cap(tape)], numbers(7, 8, 88, 88)) {
			t.Errorf("R5: behind %d steps: %x, %v, %v were changed", spoilAt, given.Text, given.Memory, tape)
		}
		spoil(given.Text, 1)
		spoil(given.Memory, -1)
		spoil(tape, -1)
		m.Run(99)
		if got := seen(t, m); !got.is(seen(t, want)) {
			t.Errorf("R5: an argument was kept: %v, not %v", got, seen(t, want))
		}
	}
}

func TestRefusedArgumentsStay(t *testing.T) {
	given := imageOf(withRoom(code(halt, set(1, 5)), 1), withRoom(numbers(5), 77)...)
	tape := withRoom(make([]int64, 4097), 88)
	machine.New(given, tape)
	machine.New(imageOf(given.Text[:1], given.Memory...), tape)
	if !slices.Equal(given.Text[:cap(given.Text)], code(halt, set(1, 5), 1, 1)) || !slices.Equal(given.Memory[:cap(given.Memory)], numbers(5, 77, 77)) || !slices.Equal(tape[4095:cap(tape)], numbers(0, 0, 88, 88)) {
		t.Errorf("R5: %x, %v, %v were changed", given.Text, given.Memory, tape[4095:])
	}
}

func TestAnswersAreApart(t *testing.T) {
	x := imageOf(code(out(1, 2), store(0, 1, 1), set(1, 4), jump(0)), 5, 6)
	m, other := newMachine(t, x, nil), newMachine(t, x, nil)
	for range 40 {
		memory, ports := m.Memory(), m.Ports()
		again, portsAgain := m.Memory(), m.Ports()
		before, ahead := slices.Clone(again), slices.Clone(portsAgain)
		spoil(memory, sealed(-9))
		spoil(ports, api.Port{N: -9, V: -9})
		if !slices.Equal(again, before) || !slices.Equal(portsAgain, ahead) {
			t.Fatalf("R5: two answers share memory: %v, %v; not %v, %v", again, portsAgain, before, ahead)
		}
		m.Step()
		other.Step()
		if !slices.Equal(again, before) || !slices.Equal(portsAgain, ahead) {
			t.Fatalf("R5: a step changes an answer: %v, %v; not %v, %v", again, portsAgain, before, ahead)
		}
		// What was written into the room behind an answer is not to be seen by a later step, either.
		spoil(portsAgain, api.Port{N: -9, V: -9})
		if got := seen(t, m); !got.is(seen(t, other)) {
			t.Fatalf("R5: an answer is the machine's own memory: %v, not %v", got, seen(t, other))
		}
	}
}

func TestMachinesKnowNothingOfEachOther(t *testing.T) {
	x := imageOf(code(in(1), store(0, 1, 0), out(1, 1), zero(1, 5), jump(0), halt), 9)
	tape := numbers(1, 2, 0)
	alone := newMachine(t, x, tape)
	var wanted []state
	for range 20 {
		wanted = append(wanted, seen(t, alone))
		alone.Step()
	}
	first, second := newMachine(t, x, tape), newMachine(t, x, tape)
	for k := range wanted {
		if k >= 3 {
			if got := seen(t, second); !got.is(wanted[k-3]) {
				t.Fatalf("R6: the second machine behind %d steps: %v, not %v", k-3, got, wanted[k-3])
			}
			second.Step()
		}
		if got := seen(t, first); !got.is(wanted[k]) {
			t.Fatalf("R6: the first machine behind %d steps: %v, not %v", k, got, wanted[k])
		}
		first.Step()
	}
	if third := newMachine(t, x, tape); !seen(t, third).is(wanted[0]) {
		t.Errorf("R6: a third machine begins as %v, not %v", seen(t, third), wanted[0])
	}
}

// TestLimits runs at the greatest text and the greatest memory.
func TestLimits(t *testing.T) {
	text := allHalts(16384)
	text[0], text[1], text[16383] = place(1, 16383), goTo(1), jump(16382)
	runs(t, "the greatest place", imageOf(text), nil, 99, 4, api.Halted, 16382)
	text[16381], text[16382] = call(16383), halt
	x := api.Image{Text: text, Entry: 16381}
	m := runs(t, "a call beside the end", x, nil, 99, 3, api.Halted, 16382)
	if w, _ := m.Register(15); w != sealed(16382) {
		t.Errorf("P10.2: the link register behind a call at 16381 is %v", w)
	}
	whole := make([]int64, 4096)
	whole[4095] = 44
	m = runs(t, "the last address", imageOf(code(load(1, 0, 4095), out(1, 0), store(0, 0, 4095), halt), whole...), nil, 99, 4, api.Halted, 3)
	told(t, "the last address", m, 0, api.Port{V: 44})
	if got := m.Memory(); len(got) != 4096 || got[4095] != plain(0) {
		t.Errorf("P10.3: a memory of %d, its last word %v", len(got), got[4095])
	}
	runs(t, "behind the last address", imageOf(code(load(1, 0, 4096), halt), whole...), nil, 99, 0, api.FaultData, 0)
	for size := range 5 {
		what := fmt.Sprintf("a memory of %d", size)
		runs(t, what, imageOf(code(load(1, 0, size), halt), make([]int64, size)...), nil, 99, 0, api.FaultData, 0)
		if size > 0 {
			runs(t, what, imageOf(code(load(1, 0, size-1), halt), make([]int64, size)...), nil, 99, 2, api.Halted, 1)
		}
	}
}
