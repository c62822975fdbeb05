package class_test

import (
	"math/rand"
	"slices"
	"strings"
	"testing"

	"pleat/api"
	"pleat/class"
	"pleat/image"
)

// fields are written out by hand, as DOC.md's table has them: the letters D, A, B; N for a number, P for a place.
var fields = [22]string{
	"", "DN", "DA", "DAB", "DAB", "DAB", "DAB", "DAB", "DAB", "DAB", "DAB",
	"DAN", "ABN", "D", "AN", "P", "AP", "P", "A", "A", "DP", "",
}

// parts are what a word is taken apart to, by divisions; the op is -1, if it is no instruction.
type parts struct{ op, d, a, b, n int }

func taken(w uint32) parts {
	p := parts{int(w / 134217728), int(w / 8388608 % 16), int(w / 524288 % 16), int(w / 32768 % 16), int(w % 32768)}
	if p.op > 21 {
		return parts{op: -1}
	}
	is := (p.d == 0 || p.has("D")) && (p.a == 0 || p.has("A")) && (p.b == 0 || p.has("B"))
	if !is || p.n > 0 && !p.has("N") && !p.has("P") || p.n >= 16384 && p.has("P") {
		return parts{op: -1}
	}
	return p
}

func (p parts) has(field string) bool { return p.op >= 0 && strings.Contains(fields[p.op], field) }

func (p parts) is(ops ...int8) bool { return slices.Contains(ops, int8(p.op)) }

func (p parts) reads(r int) bool { return p.has("A") && p.a == r || p.has("B") && p.b == r }

func (p parts) writes(r int) bool {
	return p.has("D") && p.d == r || p.is(api.Call, api.Calls) && r == 15
}

func (p parts) touches(r int) bool { return p.reads(r) || p.writes(r) }

// alone is as DOC.md's Words say it.
func (p parts) alone() bool {
	switch {
	case p.is(-1, api.Zero):
		return true
	case !p.touches(15), p.is(api.Go, api.Call):
		return false
	}
	return !p.is(api.Calls) || p.a == 15
}

func (p parts) ends() bool {
	return p.is(-1, api.Trap, api.Jump, api.Zero, api.Call, api.Calls, api.Go, api.Halt)
}

// plain is an image with all of its words taken apart.
type plain struct {
	image  api.Image
	words  []parts
	begins []bool     // of each place whether a block begins there
	known  []int      // the taken labels, and the return sites
	behind [][16]bool // of each place which registers are live behind it
}

func plainOf(x api.Image) *plain {
	size := len(x.Text)
	p := &plain{image: x, begins: make([]bool, size+1), behind: make([][16]bool, size)}
	known := map[int]bool{}
	p.begins[0], p.begins[x.Entry] = true, true
	for at, w := range x.Text {
		i := taken(w)
		p.words = append(p.words, i)
		if i.has("P") {
			p.begins[i.n] = true
		}
		if i.is(api.Place) {
			known[i.n] = true
		}
		if i.is(api.Call, api.Calls) {
			known[at+1] = true
		}
		if i.ends() {
			p.begins[at+1] = true
		}
	}
	for at := range size {
		if known[at] {
			p.known = append(p.known, at)
		}
	}
	for p.grows() {
	}
	return p
}

// next tells the places at which a machine can stand behind a step at that place.
func (p *plain) next(at int) []int {
	switch i := p.words[at]; {
	case i.is(api.Jump, api.Call):
		return []int{i.n}
	case i.is(api.Zero):
		return []int{i.n, at + 1}
	case i.is(api.Calls, api.Go):
		return p.known
	case i.is(-1, api.Trap, api.Halt):
		return nil
	}
	return []int{at + 1}
}

// grows puts into each place's set what the places behind it read, or do not write and have themselves; it tells whether that was not there yet.
func (p *plain) grows() bool {
	more := false
	for at := len(p.words) - 1; at >= 0; at-- {
		for _, next := range p.next(at) {
			for r := range 16 {
				if !p.behind[at][r] && (p.words[next].reads(r) || p.behind[next][r] && !p.words[next].writes(r)) {
					p.behind[at][r], more = true, true
				}
			}
		}
	}
	return more
}

func (p *plain) has(n, at int) bool { return n >= 2 && at >= 0 && at+n <= len(p.words) }

// free tells the least register that can hold the link register behind those places; -1, if there is none.
func (p *plain) free(n, at int) int {
	for r := range 15 {
		if !p.behind[at+n-1][r] && !slices.ContainsFunc(p.words[at:at+n], func(i parts) bool { return i.touches(r) }) {
			return r
		}
	}
	return -1
}

// spot tells the spot of places that the text has, as P19.2 says it; its class is None, if there is none.
func (p *plain) spot(n, at int) api.Spot {
	if slices.Contains(p.begins[at+1:at+n], true) {
		return api.Spot{}
	}
	switch k := reckonedKind(p.image.Text[at : at+n]...); {
	case k != api.Dead:
		return api.Spot{At: at * int(min(k, 1)), Class: k}
	case !p.behind[at+n-1][15]:
		return dead(at)
	case n > 3 && p.free(n, at) >= 0:
		return spare(at, uint32(p.free(n, at)))
	}
	return api.Spot{}
}

// same tells whether two rows of places that the text has are the same sequence, by their words.
func (p *plain) same(n, at, other int) bool {
	for k := range n {
		if at != other && (p.words[at+k].alone() || p.image.Text[at+k] != p.image.Text[other+k]) {
			return false
		}
	}
	return true
}

// folds tells whether r is not to be refused, as P19.3 says it, each place held against each other one.
func (p *plain) folds(r api.Repeat) bool {
	for k, at := range r.At {
		if !p.has(r.Len, at) {
			return false
		}
		for _, ahead := range r.At[:k] {
			if ahead >= at || !p.has(r.Len, ahead) || !p.same(r.Len, ahead, at) {
				return false
			}
		}
	}
	return r.Len >= 2 && len(r.At) > 0
}

// tally counts what was met.
type tally map[string]int

func (c tally) needs(t *testing.T, least map[string]int) {
	t.Helper()
	for what, n := range least {
		if c[what] < n {
			t.Errorf("only %d times: %s", c[what], what)
		}
	}
}

var classNames = [5]string{"none", "tail", "thunk", "dead", "spare"}

// spotAsReckoned holds Spot of one n and one place.
func (p *plain) spotAsReckoned(t *testing.T, c tally, n, at int) {
	t.Helper()
	if !p.has(n, at) {
		noSpot(t, "as reckoned", p.image, n, at, api.ErrArg)
		c["refused"]++
		return
	}
	want := p.spot(n, at)
	c[classNames[want.Class]]++
	if want.Class == api.None {
		none(t, "as reckoned", p.image, n, at)
		return
	}
	is(t, "as reckoned", p.image, n, want)
}

// spotsAsReckoned holds Spots of one Repeat, and what follows.
func (p *plain) spotsAsReckoned(t *testing.T, c tally, r api.Repeat) {
	t.Helper()
	if !p.folds(r) {
		noSpots(t, "as reckoned", p.image, r, api.ErrFold)
		c["refused"]++
		return
	}
	var want []api.Spot
	for _, at := range r.At {
		if s := p.spot(r.Len, at); s.Class != api.None {
			want = append(want, s)
			c[classNames[s.Class]]++
		} else {
			c["none"]++
		}
	}
	are(t, "as reckoned", p.image, r, want...)
	follows(t, p.image, r)
	if len(want) > 1 {
		c["several"]++
	}
	if 0 < len(want) && len(want) < len(r.At) {
		c["some"]++
	}
}

// follows holds what follows of the spots of one sequence: they are of one kind, and what stands at each is shorter than it.
func follows(t *testing.T, x api.Image, r api.Repeat) {
	t.Helper()
	l, _ := class.Spots(x, r)
	kinds := [5]int8{api.None, api.Tail, api.Thunk, api.Dead, api.Dead}
	costs := [5]int{0, 1, 1, 1, 3}
	for _, s := range l {
		if kinds[s.Class] != kinds[l[0].Class] || kinds[s.Class] != class.Kind(x.Text[s.At:s.At+r.Len]) || s.Class == api.None {
			t.Fatalf("What follows: %#x, Entry %d: %v: spots of several kinds: %v", x.Text, x.Entry, r, l)
		}
		if costs[s.Class] >= r.Len {
			t.Fatalf("What follows: %#x, Entry %d: %v costs as much as it has: %v", x.Text, x.Entry, r, s)
		}
	}
}

// allSpots holds Spot of all ns and all places, some of both that the text does not have.
func (p *plain) allSpots(t *testing.T, c tally) {
	t.Helper()
	size := len(p.words)
	for n := -1; n <= size+1; n++ {
		for at := -1; at <= size+1; at++ {
			p.spotAsReckoned(t, c, n, at)
		}
	}
}

// allPlaces holds Spots of all rising places together that one sequence stands at, by its words, and of some of them.
func (p *plain) allPlaces(t *testing.T, c tally) {
	t.Helper()
	size := len(p.words)
	for n := 2; n <= size; n++ {
		for first := range size - n + 1 {
			r := stands(n, first)
			for at := first + 1; at+n <= size; at++ {
				if p.same(n, first, at) {
					r.At = append(r.At, at)
				}
			}
			p.spotsAsReckoned(t, c, r)
			if len(r.At) > 2 {
				p.spotsAsReckoned(t, c, stands(n, r.At[0], r.At[len(r.At)-1]))
			}
		}
	}
}

// eachText tells all texts of up to that many of some words, and an end behind them, that may be.
func eachText(most int, from []uint32, end uint32, tell func(x api.Image)) {
	var grow func(words []uint32)
	grow = func(words []uint32) {
		if x := text(append(slices.Clone(words), end)...); may(x) {
			tell(x)
		}
		if len(words) == most {
			return
		}
		for _, w := range from {
			grow(append(slices.Clone(words), w))
		}
	}
	grow(nil)
}

func may(x api.Image) bool {
	e, _ := image.Check(x)
	return e == api.OK
}

func TestTextsOfFewWords(t *testing.T) {
	c, s := tally{}, tally{}
	look := func(x api.Image) {
		p := plainOf(x)
		p.allSpots(t, c)
		p.allPlaces(t, s)
	}
	for _, end := range row(goTo(15), halt, jump(1)) {
		eachText(7, row(out(1, 0), in(2)), end, look)
		eachText(5, row(out(1, 0), set(1, 5), call(1), zero(1, 0)), end, look)
		eachText(3, row(out(1, 0), call(0), goTo(15), zero(1, 0), move(2, 15), 1, calls(2), calls(15), place(1, 2), jump(1), trap), end, look)
	}
	c.needs(t, map[string]int{"refused": 10000, "none": 10000, "tail": 1000, "thunk": 500, "dead": 10000, "spare": 1000})
	s.needs(t, map[string]int{"none": 1000, "tail": 1000, "thunk": 500, "dead": 10000, "spare": 1000, "several": 1000, "some": 200})
}

// TestEachEntry has a label at each place, by the Entry alone.
func TestEachEntry(t *testing.T) {
	c, s := tally{}, tally{}
	for _, end := range row(goTo(15), halt) {
		eachText(6, row(out(1, 0), in(2)), end, func(x api.Image) {
			for x.Entry = range x.Text {
				p := plainOf(x)
				p.allSpots(t, c)
				p.allPlaces(t, s)
			}
		})
	}
	c.needs(t, map[string]int{"refused": 1000, "none": 1000, "tail": 1000, "dead": 1000, "spare": 300})
	s.needs(t, map[string]int{"none": 1000, "tail": 1000, "dead": 1000, "spare": 300, "several": 1000, "some": 500})
}

// rowsOfPlaces holds Spots of all lists of up to two places and of some of three, those too that do not rise and that are no places, and of all lists that rise.
func (p *plain) rowsOfPlaces(t *testing.T, s tally) {
	t.Helper()
	size := len(p.words)
	for n := -1; n <= size+1; n++ {
		p.spotsAsReckoned(t, s, stands(n))
		for i := -1; i <= size; i++ {
			p.spotsAsReckoned(t, s, stands(n, i))
			for k := -1; k <= size; k++ {
				p.spotsAsReckoned(t, s, stands(n, i, k))
				p.spotsAsReckoned(t, s, stands(n, 0, i, k))
				p.spotsAsReckoned(t, s, stands(n, i, 1, k))
			}
		}
		for set := range 1 << size {
			p.spotsAsReckoned(t, s, stands(n, members(set)...))
		}
	}
}

func TestAllRowsOfPlaces(t *testing.T) {
	s := tally{}
	for _, end := range row(goTo(15), halt) {
		look := func(x api.Image) { plainOf(x).rowsOfPlaces(t, s) }
		eachText(5, row(out(1, 0), in(2)), end, look)
		eachText(4, row(out(1, 0), zero(1, 0), call(1)), end, look)
		eachText(3, row(out(1, 0), halt), end, look)
	}
	plainOf(text(out(1, 0), out(1, 0), out(1, 0), out(1, 0), out(1, 0), out(1, 0), jump(5))).rowsOfPlaces(t, s)
	plainOf(text(call(1), out(1, 0), out(1, 0), out(1, 0), out(1, 0), out(1, 0), out(1, 0), goTo(15))).rowsOfPlaces(t, s)
	s.needs(t, map[string]int{"refused": 50000, "none": 1000, "tail": 500, "thunk": 50, "dead": 1000, "spare": 200, "several": 200, "some": 40})
}

// members tells the numbers of the bits that are 1, rising.
func members(set int) []int {
	var l []int
	for k := range 32 {
		if set>>k&1 == 1 {
			l = append(l, k)
		}
	}
	return l
}

func oneOf[T any](r *rand.Rand, from ...T) T { return from[r.Intn(len(from))] }

// tossedWord tells a word of a text of that size, of any op and with any registers.
func tossedWord(r *rand.Rand, size int) uint32 {
	n := r.Intn(size)
	d, a, b := uint32(r.Intn(16)), uint32(r.Intn(16)), uint32(r.Intn(16))
	w := oneOf(r,
		set(d, n), move(d, a), ins(3+uint32(r.Intn(8)), d, a, b, 0), load(d, a, 1), store(a, b, 0), in(d), out(a, 0),
		jump(n), zero(a, n), call(n), call(n), calls(a), calls(a), goTo(a), goTo(15), place(d, n), trap, halt, r.Uint32(), jump(n)|1<<r.Intn(32),
	)
	if i := taken(w); i.has("P") && i.n >= size {
		return halt
	}
	return w
}

// tossed tells an image that may be: words that touch a few registers, some of which are laid down again, others between them, and behind all of them a row that reads many registers, or writes them, and perhaps comes back to where the link register says.
func tossed(r *rand.Rand, most int) api.Image {
	size := 4 + r.Intn(most)
	words := make([]uint32, size)
	for at := range words {
		words[at] = oneOf(r, store(uint32(r.Intn(15)), uint32(r.Intn(15)), 0), set(uint32(r.Intn(15)), 5), add(uint32(r.Intn(15)), 1, 1), out(1, 0), out(1, 0))
		if r.Intn(9) == 0 {
			words[at] = tossedWord(r, size)
		}
	}
	for range r.Intn(4) {
		from := r.Intn(size)
		copy(words[r.Intn(size):], slices.Clone(words[from:min(size, from+7)]))
	}
	for reg := range uint32(15) {
		if r.Intn(3) > 0 {
			words = append(words, oneOf(r, out(reg, 0), out(reg, 0), store(reg, 1, 0), set(reg, 0)))
		}
	}
	end := oneOf(r, goTo(15), goTo(15), goTo(15), halt, jump(r.Intn(size)), goTo(uint32(r.Intn(15))))
	return api.Image{Text: append(words, end), Entry: r.Intn(size)}
}

func TestTossedTexts(t *testing.T) {
	r := rand.New(rand.NewSource(192))
	c, s := tally{}, tally{}
	for range 700 {
		p := plainOf(tossed(r, 12))
		p.allSpots(t, c)
		p.allPlaces(t, s)
	}
	c.needs(t, map[string]int{"refused": 1000, "none": 10000, "tail": 1000, "thunk": 100, "dead": 1000, "spare": 1000})
	s.needs(t, map[string]int{"none": 10000, "tail": 1000, "thunk": 100, "dead": 1000, "spare": 1000, "several": 500, "some": 50})
}

func TestLongTossedTexts(t *testing.T) {
	r := rand.New(rand.NewSource(193))
	c, s := tally{}, tally{}
	for range 100 {
		x := tossed(r, 250)
		p := plainOf(x)
		for range 100 {
			n := 2 + r.Intn(6)
			first := r.Intn(len(x.Text) - n + 1)
			p.spotAsReckoned(t, c, n, first)
			at := []int{first}
			for k := first + 1; k+n <= len(x.Text); k++ {
				if p.same(n, first, k) {
					at = append(at, k)
				}
			}
			p.spotsAsReckoned(t, s, stands(n, at...))
		}
	}
	c.needs(t, map[string]int{"none": 1000, "tail": 20, "thunk": 20, "dead": 500, "spare": 500})
	s.needs(t, map[string]int{"none": 1000, "tail": 20, "thunk": 20, "dead": 500, "spare": 500, "several": 100, "some": 20})
}
