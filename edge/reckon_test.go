package edge_test

import (
	"math/rand"
	"slices"
	"testing"

	"pleat/api"
	"pleat/edge"
	"pleat/isa"
)

// goes tells the op and the N of the word at p; -1, if it is no instruction.
func goes(x api.Image, p int) (op int8, n int) {
	i := isa.Decode(x.Text[p])
	return i.Op, int(i.N)
}

// names tells whether one of these ops of the text has p as its N.
func names(x api.Image, p int, ops ...int8) bool {
	for q := range x.Text {
		if op, n := goes(x, q); n == p && slices.Contains(ops, op) {
			return true
		}
	}
	return false
}

// behind tells whether p is the place behind one of these ops.
func behind(x api.Image, p int, ops ...int8) bool {
	if p == 0 {
		return false
	}
	op, _ := goes(x, p-1)
	return slices.Contains(ops, op)
}

func begins(x api.Image, p int) bool {
	return p == 0 || p == x.Entry || names(x, p, api.Jump, api.Zero, api.Call, api.Place) ||
		behind(x, p, -1, api.Trap, api.Jump, api.Zero, api.Call, api.Calls, api.Go, api.Halt)
}

// starts tells where the blocks begin, and behind them where the text ends.
func starts(x api.Image) []int {
	var l []int
	for p := range x.Text {
		if begins(x, p) {
			l = append(l, p)
		}
	}
	return append(l, len(x.Text))
}

// canGo tells whether control can go from the word at the end of a block to a block that begins at p.
func canGo(x api.Image, end, p int) bool {
	switch op, n := goes(x, end); op {
	case api.Jump, api.Call:
		return p == n
	case api.Zero:
		return p == n || p == end+1
	case api.Calls, api.Go:
		return names(x, p, api.Place) || behind(x, p, api.Call, api.Calls)
	case api.Trap, api.Halt, -1:
		return false
	}
	return p == end+1
}

// reckonedEdges asks of each two blocks whether control can go from one to the other.
func reckonedEdges(x api.Image) [][]int {
	at := starts(x)
	l := make([][]int, len(at)-1)
	for k := range l {
		for j := range l {
			if canGo(x, at[k+1]-1, at[j]) {
				l[k] = append(l[k], j)
			}
		}
	}
	return l
}

// reckonedReached goes over all edges until no more blocks are found.
func reckonedReached(x api.Image) []bool {
	l := reckonedEdges(x)
	found := make([]bool, len(l))
	found[slices.Index(starts(x), x.Entry)] = true
	for more := true; more; {
		more = false
		for k, list := range l {
			for _, j := range list {
				if found[k] && !found[j] {
					found[j], more = true, true
				}
			}
		}
	}
	return found
}

// asReckoned holds Edges, Back of it, Back of that, and Reached against what is reckoned; it tells how many blocks there are, and how many of them are reached.
func asReckoned(t *testing.T, x api.Image) (blocks, found int) {
	t.Helper()
	want := reckonedEdges(x)
	got, e := edge.Edges(x)
	if e != api.OK || !alike(got, want) {
		t.Fatalf("P12.1: %#x, Entry %d: Edges is %v, %d; not %v", x.Text, x.Entry, got, e, want)
	}
	back := edge.Back(got)
	if !alike(back, reckonedBack(want)) {
		t.Fatalf("P12.2: %#x, Entry %d: Back of %v is %v", x.Text, x.Entry, got, back)
	}
	if twice := edge.Back(back); !alike(twice, want) {
		t.Fatalf("What follows: %#x, Entry %d: Back of Back of %v is %v", x.Text, x.Entry, want, twice)
	}
	reachable := reckonedReached(x)
	if l, e := edge.Reached(x); e != api.OK || !slices.Equal(l, reachable) {
		t.Fatalf("P12.3: %#x, Entry %d: Reached is %v, %d; not %v", x.Text, x.Entry, l, e, reachable)
	}
	for _, is := range reachable {
		if is {
			found++
		}
	}
	return len(got), found
}

func oneOf[T any](r *rand.Rand, from ...T) T { return from[r.Intn(len(from))] }

// tossedWord tells a word that names a place of a text of that size, if it names one.
func tossedWord(r *rand.Rand, size int) uint32 {
	n, d := r.Intn(size), uint32(r.Intn(16))
	w := oneOf(r,
		set(d, n), ins(2+uint32(r.Intn(9)), d, d, 0, 0), ins(11, d, 1, 0, n), ins(12, 0, d, 1, n), ins(13, d, 0, 0, 0), ins(14, 0, d, 0, n),
		jump(n), zero(d, n), call(n), calls(d), goTo(d), place(d, n), set(d, n), place(d, n), trap, halt, r.Uint32(), jump(n)|1<<r.Intn(32),
	)
	if target, has := isa.Target(w); has && target >= size {
		return halt
	}
	return w
}

// tossed tells a small image that may be.
func tossed(r *rand.Rand) api.Image {
	size := 1 + r.Intn(12)
	x := api.Image{Entry: r.Intn(size), Memory: make([]int64, r.Intn(3))}
	for range size - 1 {
		x.Text = append(x.Text, tossedWord(r, size))
	}
	x.Text = append(x.Text, oneOf(r, trap, jump(r.Intn(size)), goTo(uint32(r.Intn(16))), halt))
	return x
}

// few tells each text of up to four of some words that may be, with each Entry.
func few(each func(api.Image)) {
	var grow func(words []uint32, size int)
	grow = func(words []uint32, size int) {
		if len(words) == size {
			for entry := range size {
				each(api.Image{Text: words, Entry: entry})
			}
			return
		}
		next := []uint32{goTo(15)}
		for n := range size {
			next = append(next, jump(n))
		}
		if len(words) < size-1 {
			next = append(next, set(3, 1), calls(3), 1)
			for n := range size {
				next = append(next, zero(3, n), call(n), place(3, n))
			}
		}
		for _, w := range next {
			grow(append(slices.Clone(words), w), size)
		}
	}
	for size := 1; size <= 4; size++ {
		grow(nil, size)
	}
}

func TestFewWordsAsReckoned(t *testing.T) {
	images := 0
	few(func(x api.Image) {
		images++
		asReckoned(t, x)
	})
	if images < 100000 {
		t.Errorf("only %d images", images)
	}
}

func TestTossedAsReckoned(t *testing.T) {
	r := rand.New(rand.NewSource(12))
	blocks, whole, part := map[int]int{}, 0, 0
	for range 30000 {
		all, found := asReckoned(t, tossed(r))
		blocks[all]++
		if found == all {
			whole++
		} else if found > 1 {
			part++
		}
	}
	for k := 1; k <= 8; k++ {
		if blocks[k] < 100 {
			t.Errorf("only %d images have %d blocks", blocks[k], k)
		}
	}
	if whole < 1000 || part < 1000 {
		t.Errorf("of only %d images all blocks are reached, of only %d some", whole, part)
	}
}
