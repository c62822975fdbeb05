package edge_test

import (
	"math/rand"
	"slices"
	"testing"

	"pleat/api"
	"pleat/block"
	"pleat/edge"
	"pleat/machine"
)

// livelyWord tells a word of a text of that size: the registers 1, 2 and 15 often hold places, 3 and 4 numbers, 0 always plain 0: so runs go far.
func livelyWord(r *rand.Rand, size int) uint32 {
	n, d, a := r.Intn(size), oneOf[uint32](r, 1, 2, 15), oneOf[uint32](r, 1, 2, 15)
	number := oneOf[uint32](r, 3, 4)
	return oneOf(r,
		place(d, n), place(d, n), place(1, n), place(2, n), move(d, a), set(number, r.Intn(2)), ins(13, number, 0, 0, 0), ins(13, number, 0, 0, 0),
		ins(12, 0, 0, a, r.Intn(2)), ins(11, d, 0, 0, r.Intn(2)), ins(10, number, d, a, 0), ins(14, 0, number, 0, n),
		jump(n), zero(number, n), zero(number, n), call(n), call(n), calls(a), calls(1), goTo(a), goTo(15), tossedWord(r, size),
	)
}

// lively tells a small image whose run has places to go to from its beginning on, and a tape.
func lively(r *rand.Rand) (api.Image, []int64) {
	size := 6 + r.Intn(16)
	x := api.Image{Entry: r.Intn(size - 4), Memory: make([]int64, 2)}
	for range size - 1 {
		x.Text = append(x.Text, livelyWord(r, size))
	}
	for p, d := range []uint32{1, 2, 15} {
		x.Text[x.Entry+p] = place(d, r.Intn(size))
	}
	x.Text = append(x.Text, oneOf(r, trap, jump(r.Intn(size)), goTo(oneOf[uint32](r, 1, 2, 15)), halt))
	tape := make([]int64, r.Intn(9))
	for k := range tape {
		tape[k] = r.Int63n(2)
	}
	return x, tape
}

// run makes at most that many steps of x, each held against the edges of the block from which it goes; it tells of each op by how many of its steps one block was left for another, or begun anew.
func run(t *testing.T, x api.Image, tape []int64, most int, left map[int8]int) {
	t.Helper()
	l, _ := edge.Edges(x)
	found, _ := edge.Reached(x)
	blocks, _ := block.Blocks(x)
	m, e := machine.New(x, tape)
	if e != api.OK {
		t.Fatalf("%#x, Entry %d: no machine: %d", x.Text, x.Entry, e)
	}
	for range most {
		from := m.At()
		k := block.Of(blocks, from)
		if !found[k] {
			t.Fatalf("P12.3: %#x, Entry %d, tape %v: the machine stands at %d, in a block that is not reached", x.Text, x.Entry, tape, from)
		}
		if m.Step() != api.Running {
			return
		}
		if from < blocks[k].To-1 {
			if m.At() != from+1 {
				t.Fatalf("What follows: %#x, Entry %d, tape %v: within a block from %d to %d", x.Text, x.Entry, tape, from, m.At())
			}
			continue
		}
		to := block.Of(blocks, m.At())
		if m.At() != blocks[to].From || !slices.Contains(l[k], to) {
			t.Fatalf("What follows: %#x, Entry %d, tape %v: from %d to %d, which is no edge of the block %d: %v", x.Text, x.Entry, tape, from, m.At(), k, l[k])
		}
		op, n := goes(x, from)
		if op == api.Zero && n != m.At() {
			op = -2 // a Zero that falls
		}
		left[op]++
	}
}

func TestRunsGoByEdges(t *testing.T) {
	r := rand.New(rand.NewSource(123))
	left := map[int8]int{}
	for range 40000 {
		x, tape := lively(r)
		run(t, x, tape, 60, left)
	}
	for _, op := range []int8{-2, api.Jump, api.Zero, api.Call, api.Calls, api.Go, api.Set, api.Move, api.Place, api.In, api.Store, api.Load, api.Same, api.Out} {
		if left[op] < 1000 {
			t.Errorf("only %d blocks were left by the op %d", left[op], op)
		}
	}
}

func TestRunsOfTossedImages(t *testing.T) {
	r := rand.New(rand.NewSource(124))
	left := map[int8]int{}
	for range 40000 {
		run(t, tossed(r), []int64{0, 1, 0, -1}, 40, left)
	}
	few(func(x api.Image) { run(t, x, nil, 8, left) })
}

// TestRunOfTheExamples runs the chapter's first two, the second one with a tape that leads it on.
func TestRunOfTheExamples(t *testing.T) {
	left := map[int8]int{}
	run(t, text(set(1, 5), call(3), halt, goTo(15)), nil, 9, left)
	run(t, text(ins(13, 1, 0, 0, 0), zero(1, 0), jump(0), trap), []int64{0, 1, 0, 2}, 20, left)
	if left[api.Call] != 1 || left[api.Go] != 1 || left[api.Zero] < 3 || left[-2] != 2 || left[api.Jump] != 2 {
		t.Errorf("the runs left their blocks otherwise: %v", left)
	}
}
