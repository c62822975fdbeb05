package touch_test

import (
	"math/rand"
	"slices"
	"testing"

	"pleat/api"
	"pleat/machine"
	"pleat/touch"
)

// start tells a word that gives the register r something to begin with.
func start(r *rand.Rand, register uint32) uint32 {
	switch r.Intn(4) {
	case 0:
		return place(register, r.Intn(32))
	case 1:
		return set(register, r.Intn(32768))
	}
	return set(register, r.Intn(4))
}

// livelyRow tells a row of few instructions, none but the last of which goes elsewhere.
func livelyRow(r *rand.Rand) []uint32 {
	var l []uint32
	for size := 1 + r.Intn(4); len(l) < size; {
		some := []int{3, 5, 16}[r.Intn(3)]
		register := func() uint32 { return uint32(15 - r.Intn(some)) }
		op := uint32(r.Intn(22))
		straight := op >= 1 && op <= 14 || op == 20
		if straight || len(l) == size-1 {
			l = append(l, fitting(op, register(), register(), register(), r.Intn(4)))
		}
	}
	return l
}

// behind runs an image that begins the registers, and makes as many steps more as the row has words.
func behind(t *testing.T, starts, l []uint32) *machine.Machine {
	t.Helper()
	x := api.Image{Text: slices.Concat(starts, l, make([]uint32, 32)), Memory: []int64{3, 1, 4, 1, 5}}
	m, e := machine.New(x, []int64{7, 0, 9, 1})
	if e != api.OK {
		t.Fatalf("%#x: no machine: %d", x.Text, e)
	}
	if n, status := m.Run(16); n != 16 || status != api.Running {
		t.Fatalf("%#x: the registers were not begun", starts)
	}
	m.Run(len(l))
	return m
}

// alikeFromOutside tells whether two machines did the same, their registers aside.
func alikeFromOutside(m, o *machine.Machine) bool {
	return m.Status() == o.Status() && m.At() == o.At() && m.Steps() == o.Steps() && m.Taken() == o.Taken() &&
		slices.Equal(m.Memory(), o.Memory()) && slices.Equal(m.Ports(), o.Ports())
}

func held(m *machine.Machine, r uint32) api.Word {
	w, _ := m.Register(int(r))
	return w
}

// TestRunsTouchNoMore runs rows from two beginnings that differ in registers that the row does not read: the runs are the same, and no register changes that the row does not write.
func TestRunsTouchNoMore(t *testing.T) {
	r := rand.New(rand.NewSource(134))
	running, faulted := 0, 0
	for range 60000 {
		l := livelyRow(r)
		reads, writes := touch.All(l)
		starts, others := make([]uint32, 16), make([]uint32, 16)
		for k := range uint32(16) {
			starts[k] = start(r, k)
			others[k] = starts[k]
			if reads&of(k) == 0 {
				others[k] = start(r, k)
			}
		}
		m, o := behind(t, starts, l), behind(t, others, l)
		before, itsBefore := behind(t, starts, nil), behind(t, others, nil)
		if !alikeFromOutside(m, o) {
			t.Fatalf("P13.1, P13.3: %#x, begun with %#x or with %#x: the runs differ by what is not read", l, starts, others)
		}
		for k := range uint32(16) {
			left := held(m, k) == held(before, k) && held(o, k) == held(itsBefore, k)
			if writes&of(k) == 0 && !left || !left && held(m, k) != held(o, k) {
				t.Fatalf("P13.1, P13.3: %#x, begun with %#x or with %#x: the register %d holds %v or %v", l, starts, others, k, held(m, k), held(o, k))
			}
		}
		if m.Steps() == 16+len(l) {
			running++
		} else {
			faulted++
		}
	}
	if running < 10000 || faulted < 1000 {
		t.Errorf("only %d rows ran to their end, %d did not", running, faulted)
	}
}
