package machine_test

import (
	"math/rand"
	"slices"
	"strings"
	"testing"

	"pleat/api"
)

const none = -1

// parts are the fields of a word; op none, if it is no instruction.
type parts struct {
	op, d, a, b int
	n           int64
}

// fieldsOf tells which fields each op has, P being an N that is a place.
func fieldsOf(op int) string {
	all := strings.Split(",DN,DA,DAB,DAB,DAB,DAB,DAB,DAB,DAB,DAB,DAN,ABN,D,AN,P,AP,P,A,A,DP,", ",")
	if op >= len(all) {
		return "?"
	}
	return all[op]
}

// apart takes a word apart by divisions.
func apart(w uint32) parts {
	p := parts{int(w / 134217728), int(w / 8388608 % 16), int(w / 524288 % 16), int(w / 32768 % 16), int64(w % 32768)}
	fields := fieldsOf(p.op)
	lacks := func(field string) bool { return !strings.Contains(fields, field) }
	switch {
	case fields == "?", lacks("D") && p.d != 0, lacks("A") && p.a != 0, lacks("B") && p.b != 0:
		return parts{op: none}
	case lacks("N") && lacks("P") && p.n != 0, lacks("N") && p.n >= 16384:
		return parts{op: none}
	case p.n >= 16384:
		p.n -= 32768
	}
	return p
}

// hinders tells the fault that a step of p is, of those two words and with a memory of that size.
func hinders(p parts, a, b api.Word, size int) int8 {
	var sealed bool
	switch p.op {
	case none:
		return api.FaultIns
	case 0:
		return api.FaultEnd
	case 3, 4, 5, 6, 7, 8, 9:
		sealed = a.Code || b.Code
	case 10:
		sealed = a.Code != b.Code
	case 11, 12, 14, 16:
		sealed = a.Code
	case 18, 19:
		sealed = !a.Code
	}
	switch {
	case sealed:
		return api.FaultSeal
	case (p.op == 11 || p.op == 12) && uint64(a.V)+uint64(p.n) >= uint64(size):
		return api.FaultData
	}
	return api.Running
}

// made tells what an op makes of two numbers, by numbers without a sign.
func made(op int, x, y int64) api.Word {
	a, b := uint64(x), uint64(y)
	truth := map[bool]uint64{true: 1}
	c := map[int]uint64{3: a + b, 4: a + ^b + 1, 5: a * b, 6: a &^ ^b, 7: ^(^a &^ b), 8: (a | b) &^ (a & b), 9: truth[x < y], 10: truth[x == y]}[op]
	return plain(int64(c))
}

// reckoned tells how a machine stands one step behind s: a whole new state.
func reckoned(x api.Image, tape []int64, s state) state {
	s = s.copied()
	if s.status != api.Running {
		return s
	}
	p := apart(x.Text[s.at])
	a, b, next := s.registers[p.a], s.registers[p.b], int64(s.at+1)
	if why := hinders(p, a, b, len(x.Memory)); why != api.Running {
		s.status = why
		return s
	}
	s.steps++
	to, d := next, api.Word{}
	switch p.op {
	case 1:
		d = plain(p.n)
	case 2:
		d = a
	case 11:
		d = s.memory[a.V+p.n]
	case 12:
		s.memory[a.V+p.n] = b
	case 13:
		d = plain(append(slices.Clone(tape), 0)[s.taken])
		s.taken = min(s.taken+1, len(tape))
	case 14:
		s.ports = append(s.ports, api.Port{N: p.n, V: a.V})
	case 15, 17:
		to = p.n
	case 16:
		to = map[bool]int64{true: p.n, false: next}[a.V == 0]
	case 18, 19:
		to = a.V
	case 20:
		d = sealed(p.n)
	case 21:
		to, s.status = int64(s.at), api.Halted
	default:
		d = made(p.op, a.V, b.V)
	}
	switch fields := fieldsOf(p.op); {
	case strings.HasPrefix(fields, "D"):
		s.registers[p.d] = d
	case p.op == 17, p.op == 18:
		s.registers[15] = sealed(next)
	}
	s.at = int(to)
	return s
}

func oneOf[T any](r *rand.Rand, from ...T) T { return from[r.Intn(len(from))] }

// tossedNumber tells small numbers mostly, and sometimes those at which others go round.
func tossedNumber(r *rand.Rand) int64 {
	return oneOf(r, 0, 1, int64(r.Intn(5)), int64(r.Intn(9)-4), oneOf(r, least, most, least+1, most-1, 1<<32, r.Int63()-r.Int63()))
}

// goesSomewhere tells whether a word has a place as its N.
func goesSomewhere(w uint32) bool {
	op := apart(w).op
	return op != none && strings.HasSuffix(fieldsOf(op), "P")
}

// tossedWord tells one for a text of that size: mostly of few registers, so that they meet.
func tossedWord(r *rand.Rand, size int) uint32 {
	reg := func() uint32 { return oneOf(r, 0, 1, 2, 3, 15, 15, uint32(r.Intn(16))) }
	n, p := oneOf(r, 0, 1, 2, r.Intn(7)-2, r.Intn(32768)-16384), r.Intn(size)
	sum := ins(uint32(3+r.Intn(8)), reg(), reg(), reg(), 0)
	odd := oneOf(r, 1, r.Uint32()|22<<27, jump(p)|0x4000, sum|4, r.Uint32())
	// A target that was tossed by chance is mostly none of the text's places.
	if goesSomewhere(odd) {
		odd = 1
	}
	return oneOf(r, set(reg(), n), set(reg(), n), move(reg(), reg()), sum, sum, sum, load(reg(), reg(), n), load(reg(), reg(), n), store(reg(), reg(), n), store(reg(), reg(), n), in(reg()), in(reg()), out(reg(), n), out(reg(), n),
		jump(p), zero(reg(), p), zero(reg(), p), call(p), call(p), calls(reg()), goTo(reg()), goTo(15), place(reg(), p), place(reg(), p), same(reg(), reg(), reg()), store(0, 15, r.Intn(3)), load(15, 0, r.Intn(3)), oneOf(r, halt, trap, odd))
}

// leaves tells whether nobody falls on behind a word, nor comes back there.
func leaves(w uint32) bool { return slices.Contains([]int{0, 15, 19, 21}, apart(w).op) }

// tossed tells a small image that may be, and a tape for it.
func tossed(r *rand.Rand) (x api.Image, tape []int64) {
	size := 2 + r.Intn(14)
	for range size {
		x.Text = append(x.Text, tossedWord(r, size))
	}
	for !leaves(x.Text[size-1]) {
		x.Text[size-1] = oneOf(r, jump(r.Intn(size)), goTo(15), halt, trap)
	}
	x.Entry = r.Intn(size)
	for range r.Intn(6) {
		x.Memory = append(x.Memory, tossedNumber(r))
	}
	for range r.Intn(6) {
		tape = append(tape, tossedNumber(r))
	}
	return x, tape
}

// outcome is what a step of an op came to.
type outcome struct {
	op     int
	status int8
}

// outcomes tells all that can be.
func outcomes() (l []outcome) {
	for op := 1; op <= 20; op++ {
		l = append(l, outcome{op, api.Running})
	}
	for _, op := range []int{3, 4, 5, 6, 7, 8, 9, 10, 11, 12, 14, 16, 18, 19} {
		l = append(l, outcome{op, api.FaultSeal})
	}
	return append(l, outcome{none, api.FaultIns}, outcome{0, api.FaultEnd}, outcome{21, api.Halted}, outcome{11, api.FaultData}, outcome{12, api.FaultData})
}

// TestTossedImages holds machines against the reckoning, step by step.
func TestTossedImages(t *testing.T) {
	r := rand.New(rand.NewSource(10))
	met, behindTape, long := map[outcome]int{}, 0, 0
	for range 40000 {
		x, tape := tossed(r)
		m, want := newMachine(t, x, tape), beginning(x)
		for range 50 {
			before := want
			want = reckoned(x, tape, before)
			if s := m.Step(); s != want.status {
				t.Fatalf("P10.2: %x, %v: Step behind %v is %d, not %d", x, tape, before, s, want.status)
			}
			if got := seen(t, m); !got.is(want) {
				t.Fatalf("P10.2, P10.3: %x, %v: behind %v it is %v, not %v", x, tape, before, got, want)
			}
			if before.status != api.Running {
				break
			}
			op := apart(x.Text[before.at]).op
			met[outcome{op, want.status}]++
			if op == 13 && before.taken == len(tape) {
				behindTape++
			}
		}
		if want.status == api.Running {
			long++
		}
	}
	for _, o := range outcomes() {
		if met[o] < 50 {
			t.Errorf("the tossed images have the outcome %v only %d times: the test is weak", o, met[o])
		}
	}
	if behindTape < 500 || long < 1000 || len(met) != len(outcomes()) {
		t.Errorf("an In behind the tape's end %d times, a run that went on %d times, %d outcomes: the test is weak", behindTape, long, len(met))
	}
}

// TestRunsAddUp is the first thing of What follows.
func TestRunsAddUp(t *testing.T) {
	r := rand.New(rand.NewSource(11))
	met := map[[2]bool]int{}
	for range 40000 {
		x, tape := tossed(r)
		a, b := r.Intn(25), r.Intn(25)
		parted, whole := newMachine(t, x, tape), newMachine(t, x, tape)
		first, between := parted.Run(a)
		second, last := parted.Run(b)
		all, status := whole.Run(a + b)
		if first+second != all || last != status || !seen(t, parted).is(seen(t, whole)) {
			t.Fatalf("What follows: %x, %v: Run(%d), Run(%d): %d, %d, %v; Run(%d): %d, %v", x, tape, a, b, first, second, seen(t, parted), a+b, all, seen(t, whole))
		}
		single := newMachine(t, x, tape)
		for range a + b {
			single.Step()
		}
		if !seen(t, single).is(seen(t, whole)) {
			t.Fatalf("P10.2: %x, %v: %d times Step: %v; Run: %v", x, tape, a+b, seen(t, single), seen(t, whole))
		}
		met[[2]bool{between == api.Running, last == api.Running}]++
	}
	for _, must := range [][2]bool{{true, true}, {true, false}, {false, false}} {
		if met[must] < 1000 {
			t.Errorf("going on behind the first and behind the second Run is %v only %d times: the test is weak", must, met[must])
		}
	}
}

// renamed tells x with its stretches, each as far as a word that leaves, in another order; and what each place is called then. No place is called otherwise than behind the one ahead where a run may go on from that one to it.
func renamed(r *rand.Rand, x api.Image) (api.Image, []int) {
	var stretches [][]int
	from := 0
	for p, w := range x.Text {
		if leaves(w) {
			stretch := []int{}
			for ; from <= p; from++ {
				stretch = append(stretch, from)
			}
			stretches = append(stretches, stretch)
		}
	}
	r.Shuffle(len(stretches), func(i, k int) { stretches[i], stretches[k] = stretches[k], stretches[i] })
	to := make([]int, len(x.Text))
	for now, p := range slices.Concat(stretches...) {
		to[p] = now
	}
	y := api.Image{Text: make([]uint32, len(x.Text)), Entry: to[x.Entry], Memory: x.Memory}
	for p, w := range x.Text {
		if goesSomewhere(w) {
			target := apart(w).n
			w = w - uint32(target) + uint32(to[target])
		}
		y.Text[to[p]] = w
	}
	return y, to
}

// called tells s with all its places called by their new names.
func (s state) called(to []int) state {
	s = s.copied()
	s.at = to[s.at]
	for k, w := range s.registers {
		if w.Code {
			s.registers[k] = sealed(int64(to[w.V]))
		}
	}
	for k, w := range s.memory {
		if w.Code {
			s.memory[k] = sealed(int64(to[w.V]))
		}
	}
	return s
}

// TestRenamedPlacesRunAlike is the second thing of What follows.
func TestRenamedPlacesRunAlike(t *testing.T) {
	r := rand.New(rand.NewSource(12))
	moved, kept, long := 0, 0, 0
	for range 40000 {
		x, tape := tossed(r)
		y, to := renamed(r, x)
		if slices.IsSorted(to) {
			continue
		}
		moved++
		m, other := newMachine(t, x, tape), newMachine(t, y, tape)
		for range 40 {
			s := seen(t, m)
			if got := seen(t, other); !got.is(s.called(to)) {
				t.Fatalf("What follows: %x renamed by %v as %x, %v: %v; not %v", x, to, y, tape, got, s.called(to))
			}
			if slices.ContainsFunc(s.memory, func(w api.Word) bool { return w.Code }) {
				kept++
			}
			if s.status != api.Running {
				break
			}
			if first, second := m.Step(), other.Step(); first != second {
				t.Fatalf("What follows: %x renamed by %v as %x, %v: a step behind %v is %d, and %d", x, to, y, tape, s, first, second)
			}
		}
		if m.Steps() >= 20 {
			long++
		}
	}
	if moved < 10000 || kept < 1000 || long < 1000 {
		t.Errorf("only %d images were renamed, %d times a place was in the memory, %d ran on: the test is weak", moved, kept, long)
	}
}
