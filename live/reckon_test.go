package live_test

import (
	"math/rand"
	"slices"
	"strings"
	"testing"

	"pleat/api"
	"pleat/block"
	"pleat/edge"
	"pleat/live"
	"pleat/touch"
)

// fields are written out by hand, as DOC.md's table has them: the letters D, A, B; N for a number, P for a place.
var fields = [22]string{
	"", "DN", "DA", "DAB", "DAB", "DAB", "DAB", "DAB", "DAB", "DAB", "DAB",
	"DAN", "ABN", "D", "AN", "P", "AP", "P", "A", "A", "DP", "",
}

// parts are what a word is taken apart to, by divisions; the op is -1, if it is no instruction.
type parts struct{ op, d, a, b, n int }

func taken(w uint32) parts {
	p := parts{int(w / 134217728), int(w / 8388608 % 16), int(w / 524288 % 16), int(w / 32768 % 16), int(w % 32768)}
	if p.op > 21 {
		return parts{op: -1}
	}
	is := (p.d == 0 || p.has("D")) && (p.a == 0 || p.has("A")) && (p.b == 0 || p.has("B"))
	if !is || p.n > 0 && !p.has("N") && !p.has("P") || p.n >= 16384 && p.has("P") {
		return parts{op: -1}
	}
	return p
}

func (p parts) has(field string) bool { return p.op >= 0 && strings.Contains(fields[p.op], field) }

func (p parts) is(ops ...int8) bool { return slices.Contains(ops, int8(p.op)) }

func (p parts) reads(r int) bool { return p.has("A") && p.a == r || p.has("B") && p.b == r }

func (p parts) writes(r int) bool {
	return p.has("D") && p.d == r || p.is(api.Call, api.Calls) && r == 15
}

// plain is an image with all of its words taken apart.
type plain struct {
	words []parts
	known []int // the taken labels, and the return sites
	at    []int // where blocks begin, and behind them where the text ends
}

func plainOf(x api.Image) plain {
	var p plain
	begins := map[int]bool{0: true, x.Entry: true}
	known := map[int]bool{}
	for at, w := range x.Text {
		i := taken(w)
		p.words = append(p.words, i)
		if i.has("P") {
			begins[i.n] = true
		}
		if i.is(api.Place) {
			known[i.n] = true
		}
		if i.is(api.Call, api.Calls) {
			known[at+1] = true
		}
		if i.is(-1, api.Trap, api.Jump, api.Zero, api.Call, api.Calls, api.Go, api.Halt) {
			begins[at+1] = true
		}
	}
	for at := range len(x.Text) + 1 {
		if known[at] {
			p.known = append(p.known, at)
		}
		if begins[at] {
			p.at = append(p.at, at)
		}
	}
	return p
}

// next tells the places at which a machine can stand behind a step at that place.
func (p plain) next(at int) []int {
	switch i := p.words[at]; {
	case i.is(api.Jump, api.Call):
		return []int{i.n}
	case i.is(api.Zero):
		return []int{i.n, at + 1}
	case i.is(api.Calls, api.Go):
		return p.known
	case i.is(-1, api.Trap, api.Halt):
		return nil
	}
	return []int{at + 1}
}

// readFirst goes on from that place, as far as r is not written, in search of a word that reads it.
func (p plain) readFirst(r, at int, been []bool) bool {
	if been[at] {
		return false
	}
	been[at] = true
	if p.words[at].reads(r) {
		return true
	}
	return !p.words[at].writes(r) && p.readBehind(r, at, been)
}

func (p plain) readBehind(r, at int, been []bool) bool {
	for _, next := range p.next(at) {
		if p.readFirst(r, next, been) {
			return true
		}
	}
	return false
}

// liveSets tells the registers that are live ahead of a place and behind it, as the chapter's opening has it: read, on some way from there, ahead of being written.
func (p plain) liveSets(at int) (ahead, behind uint16) {
	for r := range 16 {
		if !slices.ContainsFunc(p.words, func(i parts) bool { return i.reads(r) }) {
			continue
		}
		if p.readFirst(r, at, make([]bool, len(p.words))) {
			ahead |= of(uint32(r))
		}
		if p.readBehind(r, at, make([]bool, len(p.words))) {
			behind |= of(uint32(r))
		}
	}
	return ahead, behind
}

// asReckoned holds Behind and Blocks against what is reckoned; it tells how many blocks there are, and how many sets are neither empty nor full of what is touched anywhere.
func asReckoned(t *testing.T, x api.Image) (blocks, mixed int) {
	t.Helper()
	p := plainOf(x)
	var ahead, behind []uint16
	for at := range x.Text {
		a, b := p.liveSets(at)
		ahead, behind = append(ahead, a), append(behind, b)
	}
	if got, e := live.Behind(x); e != api.OK || !slices.Equal(got, behind) {
		t.Fatalf("P14.2: %#x, Entry %d: Behind is %v, %d; not %v", x.Text, x.Entry, got, e, behind)
	}
	var in, out []uint16
	for k := range p.at[1:] {
		in, out = append(in, ahead[p.at[k]]), append(out, behind[p.at[k+1]-1])
	}
	if i, o, e := live.Blocks(x); e != api.OK || !slices.Equal(i, in) || !slices.Equal(o, out) {
		t.Fatalf("P14.1: %#x, Entry %d: Blocks is %v, %v, %d; not %v, %v", x.Text, x.Entry, i, o, e, in, out)
	}
	all := uint16(0)
	for _, set := range behind {
		all |= set
	}
	for _, set := range behind {
		if set != 0 && set != all {
			mixed++
		}
	}
	return len(in), mixed
}

// byWords holds Behind against P14.2 place by place, and against Blocks: what is live ahead of a block's first place is its in.
func byWords(t *testing.T, x api.Image) {
	t.Helper()
	l, _ := live.Behind(x)
	in, out, _ := live.Blocks(x)
	blocks, _ := block.Blocks(x)
	if len(l) != len(x.Text) || len(in) != len(blocks) || len(out) != len(blocks) {
		t.Fatalf("P14.1, P14.2: %#x, Entry %d: %d places, %d, %d sets of %d blocks", x.Text, x.Entry, len(l), len(in), len(out), len(blocks))
	}
	ahead := func(p int) uint16 { return touch.Reads(x.Text[p]) | l[p]&^touch.Writes(x.Text[p]) }
	for k, b := range blocks {
		if l[b.To-1] != out[k] {
			t.Fatalf("P14.2: %#x, Entry %d: behind the last place of the block %d: %d, not %d", x.Text, x.Entry, k, l[b.To-1], out[k])
		}
		for p := b.From; p < b.To-1; p++ {
			if l[p] != ahead(p+1) {
				t.Fatalf("P14.2: %#x, Entry %d: behind the place %d: %d, not %d", x.Text, x.Entry, p, l[p], ahead(p+1))
			}
		}
		if ahead(b.From) != in[k] {
			t.Fatalf("P14.1, P14.2: %#x, Entry %d: ahead of the first place of the block %d: %d, not %d", x.Text, x.Entry, k, ahead(b.From), in[k])
		}
	}
}

// equations are those of P14.1 of one register: of each block, by the bit of its number, whether it reads it, and whether it writes it; and to which blocks it goes.
type equations struct {
	reads, writes uint
	edges         []uint
}

// hold tells whether they hold, if the register is in the in and the out of just these blocks.
func (q equations) hold(in, out uint) bool {
	for k, to := range q.edges {
		if (out>>k&1 == 1) != (in&to != 0) {
			return false
		}
	}
	return in == q.reads|out&^q.writes
}

// out tells of which blocks the out has the register, if the in of these has it.
func (q equations) out(in uint) uint {
	var out uint
	for k, to := range q.edges {
		if in&to != 0 {
			out |= 1 << k
		}
	}
	return out
}

func bit(set uint16, r, k int) uint { return uint(set>>r&1) << k }

func equationsOf(x api.Image, r int) equations {
	blocks, _ := block.Blocks(x)
	edges, _ := edge.Edges(x)
	var q equations
	for k, b := range blocks {
		reads, writes := touch.All(x.Text[b.From:b.To])
		q.reads |= bit(reads, r, k)
		q.writes |= bit(writes, r, k)
		var to uint
		for _, j := range edges[k] {
			to |= 1 << j
		}
		q.edges = append(q.edges, to)
	}
	return q
}

// leastOfAll holds Blocks against all sets for which the equations hold: it tells one of them, and each other one has all that it has. It tells for how many registers there are several.
func leastOfAll(t *testing.T, x api.Image) (several int) {
	t.Helper()
	i, o, _ := live.Blocks(x)
	for r := range 16 {
		q := equationsOf(x, r)
		var in, out uint
		for k := range i {
			in |= bit(i[k], r, k)
			out |= bit(o[k], r, k)
		}
		if !q.hold(in, out) {
			t.Fatalf("P14.1: %#x, Entry %d: for the register %d the equations do not hold: %v, %v", x.Text, x.Entry, r, i, o)
		}
		found := 0
		for other := range uint(1) << len(i) {
			outs := q.out(other)
			if !q.hold(other, outs) {
				continue
			}
			found++
			if in&^other != 0 || out&^outs != 0 {
				t.Fatalf("P14.1: %#x, Entry %d: for the register %d smaller sets do: %b, not %b", x.Text, x.Entry, r, other, in)
			}
		}
		if found > 1 {
			several++
		}
	}
	return several
}

func oneOf[T any](r *rand.Rand, from ...T) T { return from[r.Intn(len(from))] }

// tossedWord tells a word of a text of that size; its registers are few, so that one word reads what another one writes.
func tossedWord(r *rand.Rand, size int) uint32 {
	n := r.Intn(size)
	d, a, b := oneOf[uint32](r, 1, 2, 3, 15), oneOf[uint32](r, 1, 2, 3, 4, 15), uint32(r.Intn(16))
	w := oneOf(r,
		set(d, n), set(a, n), move(d, a), move(d, b), add(d, a, b), ins(4+uint32(r.Intn(7)), d, a, a, 0), load(d, a, 1), store(a, b, 0), in(d), in(b), out(a), out(b),
		jump(n), jump(n), zero(a, n), zero(b, n), zero(d, n), call(n), call(n), calls(a), goTo(a), goTo(15), place(d, n), place(b, n), trap, halt, r.Uint32(), jump(n)|1<<r.Intn(32),
	)
	if i := taken(w); i.has("P") && i.n >= size {
		return halt
	}
	return w
}

// tossed tells a small image that may be.
func tossed(r *rand.Rand, most int) api.Image {
	size := 1 + r.Intn(most)
	x := api.Image{Entry: r.Intn(size), Memory: make([]int64, r.Intn(3))}
	for range size - 1 {
		x.Text = append(x.Text, tossedWord(r, size))
	}
	x.Text = append(x.Text, oneOf(r, trap, jump(r.Intn(size)), jump(r.Intn(size)), goTo(uint32(r.Intn(16))), goTo(15), halt))
	return x
}

// few tells each text of up to four of some words that may be, with each Entry.
func few(each func(api.Image)) {
	var grow func(words []uint32, size int)
	grow = func(words []uint32, size int) {
		if len(words) == size {
			for entry := range size {
				each(api.Image{Text: words, Entry: entry})
			}
			return
		}
		next := []uint32{goTo(15)}
		for n := range size {
			next = append(next, jump(n))
		}
		if len(words) < size-1 {
			next = append(next, set(3, 1), out(3), move(4, 3), calls(3), halt)
			for n := range size {
				next = append(next, zero(3, n), call(n), place(3, n))
			}
		}
		for _, w := range next {
			grow(append(slices.Clone(words), w), size)
		}
	}
	for size := 1; size <= 4; size++ {
		grow(nil, size)
	}
}

func TestFewWordsAsReckoned(t *testing.T) {
	images := 0
	few(func(x api.Image) {
		images++
		asReckoned(t, x)
	})
	if images < 100000 {
		t.Errorf("only %d images", images)
	}
}

func TestTossedAsReckoned(t *testing.T) {
	r := rand.New(rand.NewSource(141))
	count, mixed := map[int]int{}, 0
	for range 20000 {
		blocks, some := asReckoned(t, tossed(r, 16))
		count[blocks]++
		mixed += some
	}
	for k := 1; k <= 10; k++ {
		if count[k] < 100 {
			t.Errorf("only %d images have %d blocks", count[k], k)
		}
	}
	if mixed < 20000 {
		t.Errorf("only %d sets are neither empty nor the largest", mixed)
	}
}

func TestLongTossedAsReckoned(t *testing.T) {
	r := rand.New(rand.NewSource(142))
	for range 100 {
		asReckoned(t, tossed(r, 150))
	}
}

func TestPlacesByWords(t *testing.T) {
	r := rand.New(rand.NewSource(143))
	for range 20000 {
		byWords(t, tossed(r, 30))
	}
	for range 30 {
		byWords(t, tossed(r, 2000))
	}
}

func TestNoSmallerSets(t *testing.T) {
	r := rand.New(rand.NewSource(144))
	several := 0
	for range 15000 {
		several += leastOfAll(t, tossed(r, 9))
	}
	if several < 10000 {
		t.Errorf("only %d times several sets would do", several)
	}
}
