package gain_test

import (
	"math/rand"
	"slices"
	"testing"

	"pleat/api"
	"pleat/class"
	"pleat/gain"
	"pleat/image"
	"pleat/isa"
	"pleat/prune"
	"pleat/repeat"
)

const halt = 21 << 27

// ins tells a word by the bits that chapter 2 says.
func ins(op, d, a, b uint32, n int) uint32 {
	return op<<27 | d<<23 | a<<19 | b<<15 | uint32(n)&0x7fff
}

func set(d uint32, n int) uint32 { return ins(1, d, 0, 0, n) }
func move(d, a uint32) uint32    { return ins(2, d, a, 0, 0) }
func add(d, a, b uint32) uint32  { return ins(3, d, a, b, 0) }
func out(a uint32, n int) uint32 { return ins(14, 0, a, 0, n) }
func jump(n int) uint32          { return ins(15, 0, 0, 0, n) }
func zero(a uint32, n int) uint32 {
	return ins(16, 0, a, 0, n)
}
func call(n int) uint32     { return ins(17, 0, 0, 0, n) }
func calls(a uint32) uint32 { return ins(18, 0, a, 0, 0) }
func goTo(a uint32) uint32  { return ins(19, 0, a, 0, 0) }

// stead tells what stands at a spot that is folded, with the function at a place.
func stead(s api.Spot, function int) []uint32 {
	switch s.Class {
	case api.Tail:
		return []uint32{jump(function)}
	case api.Spare:
		return []uint32{move(uint32(s.Reg), 15), call(function), move(15, uint32(s.Reg))}
	}
	return []uint32{call(function)}
}

// laid tells the function of a sequence, as DOC.md's table of a fold does.
func laid(words []uint32, class int8) []uint32 {
	f := slices.Clone(words)
	switch class {
	case api.Thunk:
		last := isa.Decode(f[len(f)-1])
		if last.Op == api.Call {
			f[len(f)-1] = jump(int(last.N))
		} else {
			f[len(f)-1] = goTo(uint32(last.A))
		}
	case api.Dead, api.Spare:
		f = append(f, goTo(15))
	}
	return f
}

// folded lays a function behind the text and changes the spots, as the document says; then aims each word that was the text's own.
func folded(x api.Image, n int, l []api.Spot) api.Image {
	var words []uint32
	var own []int // where in words they are
	stands := make([]int, len(x.Text))
	function := len(x.Text)
	for _, s := range l {
		function += len(stead(s, 0)) - n
	}
	for p := 0; p < len(x.Text); {
		stands[p] = len(words)
		if k := slices.IndexFunc(l, func(s api.Spot) bool { return s.At == p }); k >= 0 {
			words = append(words, stead(l[k], function)...)
			p += n
			continue
		}
		own = append(own, len(words))
		words = append(words, x.Text[p])
		p++
	}
	for _, w := range laid(x.Text[l[0].At:l[0].At+n], l[0].Class) {
		own = append(own, len(words))
		words = append(words, w)
	}
	for _, k := range own {
		if at, is := isa.Target(words[k]); is {
			words[k], _ = isa.Aim(words[k], stands[at])
		}
	}
	return api.Image{Text: words, Entry: stands[x.Entry], Memory: x.Memory}
}

// shrinks holds, of each sequence of an image whose spots are folded, what Of tells against what the text gets smaller by.
func shrinks(t *testing.T, c tally, x api.Image) {
	t.Helper()
	all, e := repeat.All(x)
	if e != api.OK {
		t.Fatalf("the image of %#x may not be: %d", x.Text, e)
	}
	for r := range all {
		spots, e := class.Spots(x, r)
		if e != api.OK {
			t.Fatalf("Spots of %#x and %v refuse: %d", x.Text, r, e)
		}
		spots = prune.Apart(r.Len, spots)
		if len(spots) == 0 {
			pays(t, "no spot", r.Len, spots, 0)
			continue
		}
		f := folded(x, r.Len, spots)
		if got, smaller := gain.Of(r.Len, spots), len(x.Text)-len(f.Text); got != smaller {
			t.Fatalf("What follows: Of %d and %v of %#x is %d, but folded it is %#x, smaller by %d", r.Len, spots, x.Text, got, f.Text, smaller)
		}
		met(c, x, r.Len, spots, f)
	}
}

func met(c tally, x api.Image, n int, l []api.Spot, f api.Image) {
	if e, _ := image.Check(f); e == api.OK {
		c["an image that may be"]++
	} else {
		c["an image that may not be"]++
	}
	c[[]string{"none", "tail", "thunk", "dead", "spare"}[l[0].Class]]++
	if slices.ContainsFunc(l, func(s api.Spot) bool { return s.Class != l[0].Class }) {
		c["unlike classes"]++
	}
	switch smaller := len(x.Text) - len(f.Text); {
	case smaller < 0:
		c["larger"]++
	case smaller == 0:
		c["as large"]++
	default:
		c["smaller"]++
	}
}

func TestFoldedTexts(t *testing.T) {
	c := tally{}
	shrinks(t, c, api.Image{Text: []uint32{set(1, 5), add(1, 1, 1), out(1, 0), out(1, 1), set(1, 5), add(1, 1, 1), out(1, 0), out(1, 1), halt}})
	shrinks(t, c, api.Image{Text: []uint32{zero(2, 4), set(1, 5), out(1, 0), halt, set(1, 5), out(1, 0), halt}})
	shrinks(t, c, api.Image{Text: []uint32{set(1, 5), goTo(15), set(2, 1), call(0), set(2, 1), call(0), halt}, Entry: 2})
	shrinks(t, c, api.Image{Text: []uint32{set(1, 5), out(1, 0), set(1, 5), out(1, 0), halt}})
	c.needs(t, map[string]int{"tail": 1, "thunk": 1, "dead": 2, "larger": 1, "smaller": 2})
}

// drawnText tells an image of a few rows of words, laid one behind the other in any order.
func drawnText(r *rand.Rand) api.Image {
	size := 12 + r.Intn(40)
	phrases := make([][]uint32, 2+r.Intn(3))
	for k := range phrases {
		for range 1 + r.Intn(5) {
			phrases[k] = append(phrases[k], []uint32{set(1, r.Intn(2)), add(2, 1, 1), out(1, 0), out(2, 1), move(3, 2)}[r.Intn(5)])
		}
	}
	ends := []uint32{halt, goTo(15), calls(4), call(r.Intn(size)), jump(r.Intn(size)), zero(2, r.Intn(size))}
	var words []uint32
	for len(words) < size {
		words = append(words, phrases[r.Intn(len(phrases))]...)
		if r.Intn(2) == 0 {
			words = append(words, ends[r.Intn(len(ends))])
		}
	}
	return api.Image{Text: append(words[:size-1], halt), Entry: r.Intn(size)}
}

func TestDrawnTexts(t *testing.T) {
	r := rand.New(rand.NewSource(215))
	c := tally{}
	for range 3000 {
		shrinks(t, c, drawnText(r))
	}
	c.needs(t, map[string]int{"tail": 1000, "thunk": 1000, "dead": 1000, "spare": 300, "unlike classes": 300, "larger": 1000, "as large": 1000, "smaller": 1000})
	if c["an image that may not be"] > 0 {
		t.Errorf("What follows: %d folded images may not be", c["an image that may not be"])
	}
}
