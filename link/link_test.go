package link_test

import (
	"fmt"
	"math"
	"slices"
	"strings"
	"testing"

	"pleat/api"
	"pleat/link"
)

// Words, by the bits that chapter 2 says.
const (
	halt    = 21 << 27
	goLink  = 19<<27 | 15<<19
	set15   = 1<<27 | 1<<23 | 5
	outWord = 14<<27 | 1<<19 | 2
)

func jump(n uint32) uint32     { return 15<<27 | n }
func zero(a, n uint32) uint32  { return 16<<27 | a<<19 | n }
func call(n uint32) uint32     { return 17<<27 | n }
func place(d, n uint32) uint32 { return 20<<27 | d<<23 | n }

func local(name string, at int) api.Symbol  { return api.Symbol{Name: name, Kind: api.Local, At: at} }
func global(name string, at int) api.Symbol { return api.Symbol{Name: name, Kind: api.Global, At: at} }
func weak(name string, at int) api.Symbol   { return api.Symbol{Name: name, Kind: api.Weak, At: at} }
func wanted(name string) api.Symbol         { return api.Symbol{Name: name, Kind: api.Wanted} }

func objects(l ...api.Object) []api.Object { return l }

// made makes an object of that code; other parts are added by withSymbols, withData, withRelocs.
func made(name string, code ...uint32) api.Object { return api.Object{Name: name, Code: code} }

// long makes an object of so many words of code, all halt.
func long(name string, words int) api.Object {
	o := made(name, make([]uint32, words)...)
	for k := range o.Code {
		o.Code[k] = halt
	}
	return o
}

func withSymbols(o api.Object, s ...api.Symbol) api.Object {
	o.Symbols = s
	return o
}

func withData(o api.Object, at int, data ...int64) api.Object {
	o.DataAt, o.Data = at, data
	return o
}

// withRelocs adds relocations, of pairs of a place and a symbol's number.
func withRelocs(o api.Object, pairs ...int) api.Object {
	for k := 0; k < len(pairs); k += 2 {
		o.Relocs = append(o.Relocs, api.Reloc{At: pairs[k], Sym: pairs[k+1]})
	}
	return o
}

// mainOf makes an object of that code that has main at its place 0.
func mainOf(code ...uint32) api.Object { return withSymbols(made("m", code...), global("main", 0)) }

// exampleA and exampleB are the objects of the chapter's examples.
func exampleA() api.Object {
	return withRelocs(withData(withSymbols(made("a", call(0), halt), wanted("f"), global("main", 0)), 1, 7, 8), 0, 0)
}

func exampleB() api.Object { return withSymbols(made("b", set15, goLink), global("f", 0)) }

func sameImage(a, b api.Image) bool {
	return slices.Equal(a.Text, b.Text) && a.Entry == b.Entry && slices.Equal(a.Memory, b.Memory)
}

func links(t *testing.T, what string, l []api.Object, entry string, memory int, want api.Image) {
	t.Helper()
	if x, e, i, at := link.Link(l, entry, memory); e != api.OK || i != 0 || at != 0 || !sameImage(x, want) {
		t.Errorf("P9.1: %s: %x, %d, %d, %d; not %x, 0, 0, 0", what, x, e, i, at, want)
	}
}

// lays asks for the text alone, of an image that begins at its place entry and has no memory.
func lays(t *testing.T, what string, l []api.Object, entry int, text ...uint32) {
	t.Helper()
	links(t, what, l, "main", 0, api.Image{Text: text, Entry: entry})
}

func refuses(t *testing.T, what string, l []api.Object, entry string, memory int, e api.Errno, i, at int) {
	t.Helper()
	x, gotE, gotI, gotAt := link.Link(l, entry, memory)
	if gotE != e || gotI != i || gotAt != at {
		t.Errorf("P9.1: %s: %d, %d, %d; not %d, %d, %d", what, gotE, gotI, gotAt, e, i, at)
	}
	if len(x.Text) != 0 || x.Entry != 0 || len(x.Memory) != 0 {
		t.Errorf("R2: %s: beside the error %d stands an image of %d words, entry %d, memory %d", what, gotE, len(x.Text), x.Entry, len(x.Memory))
	}
}

func hasBases(t *testing.T, what string, l []api.Object, want ...int) {
	t.Helper()
	if bases, e := link.Bases(l); e != api.OK || !slices.Equal(bases, want) {
		t.Errorf("P9.2: %s: %v, %d; not %v, 0", what, bases, e, want)
	}
}

func hasNoBases(t *testing.T, what string, l []api.Object, e api.Errno) {
	t.Helper()
	bases, got := link.Bases(l)
	if got != e {
		t.Errorf("P9.2: %s: %d; not %d", what, got, e)
	}
	if len(bases) != 0 {
		t.Errorf("R2: %s: beside the error %d stands %v", what, got, bases)
	}
}

func TestExamples(t *testing.T) {
	a, b, c := exampleA(), exampleB(), withData(made("c"), 2, 1)
	links(t, "a b", objects(a, b), "main", 4, api.Image{Text: []uint32{call(3), halt, 0, set15, goLink, 0}, Memory: []int64{0, 7, 8, 0}})
	links(t, "b a", objects(b, a), "main", 3, api.Image{Text: []uint32{set15, goLink, 0, call(0), halt, 0}, Entry: 3, Memory: []int64{0, 7, 8}})
	refuses(t, "a b", objects(a, b), "main", 2, api.ErrData, 0, 0)
	refuses(t, "a b", objects(a, b), "main", 4097, api.ErrArg, 0, 0)
	refuses(t, "a b", objects(a, b), "f2", 4, api.ErrEntry, 0, 0)
	refuses(t, "a", objects(a), "main", 4, api.ErrUndefined, 0, 0)
	refuses(t, "a b c", objects(a, b, c), "main", 4, api.ErrOver, 2, 2)
	hasBases(t, "a b", objects(a, b), 0, 3)
	hasBases(t, "nothing", nil)
}

// TestWholeExamples has those examples of DOC.md that are links.
func TestWholeExamples(t *testing.T) {
	links(t, "the first one", objects(mainOf(set15, outWord, halt)), "main", 4, api.Image{Text: []uint32{set15, outWord, halt, 0}, Memory: make([]int64, 4)})
	a := withRelocs(withSymbols(made("a", call(0), halt, halt), wanted("f"), global("main", 0)), 0, 0)
	b := withSymbols(made("b", halt, goLink), global("f", 1))
	lays(t, "a calls what b has", objects(a, b), 0, call(5), halt, halt, 0, halt, goLink, 0)
	refuses(t, "without b", objects(a), "main", 0, api.ErrUndefined, 0, 0)
	a.Symbols[0], b.Symbols[0] = weak("f", 2), weak("f", 1)
	lays(t, "f Weak in both", objects(a, b), 0, call(2), halt, halt, 0, halt, goLink, 0)
	a.Symbols[0], b.Symbols[0] = global("f", 2), global("f", 1)
	refuses(t, "f Global in both", objects(a, b), "main", 0, api.ErrTwice, 1, 0)
}

func TestMemory(t *testing.T) {
	m := objects(mainOf(halt))
	for _, memory := range []int{0, 1, 2, 4095, 4096} {
		links(t, "a memory without data", m, "main", memory, api.Image{Text: []uint32{halt, 0}, Memory: make([]int64, memory)})
	}
	wrong := map[string][]api.Object{
		"nothing else":  m,
		"too many":      make([]api.Object, 33),
		"no object":     objects(made("9")),
		"one name":      objects(made("a"), made("a")),
		"two Global":    objects(withSymbols(made("a"), global("main", 0)), withSymbols(made("b"), global("main", 0))),
		"undefined":     objects(withSymbols(made("a"), wanted("x"), global("main", 0))),
		"no entry":      objects(made("a", halt)),
		"no objects":    nil,
		"too large":     objects(withSymbols(long("a", 16384), global("main", 0))),
		"data over":     objects(withData(mainOf(halt), 0, 1), withData(made("b"), 0, 1)),
		"data all over": objects(withData(mainOf(halt), 4095, 1), withData(made("b"), 4095, 1)),
	}
	for what, l := range wrong {
		for _, memory := range []int{-1, -2, 4097, 4098, 8192, math.MaxInt, math.MinInt} {
			refuses(t, fmt.Sprintf("a memory of %d, and %s", memory, what), l, "main", memory, api.ErrArg, 0, 0)
		}
	}
}

// unresolved is a list that does not resolve, and what symbol.Resolve tells of it.
type unresolved struct {
	l    []api.Object
	e    api.Errno
	i, k int
}

func allUnresolved() map[string]unresolved {
	ok, many := withSymbols(made("ok", halt), global("other", 1)), make([]api.Object, 33)
	symbols := made("x")
	for k := range 257 {
		symbols.Symbols = append(symbols.Symbols, local(fmt.Sprintf("s%d", k), 0))
	}
	return map[string]unresolved{
		"too many objects":     {many, api.ErrMany, 32, 0},
		"no name":              {objects(ok, made("9")), api.ErrName, 1, -1},
		"too much code":        {objects(ok, long("x", 16385)), api.ErrMany, 1, -1},
		"too many symbols":     {objects(symbols, ok), api.ErrMany, 0, -2},
		"too many relocations": {objects(ok, withRelocs(made("x"), 0, 0)), api.ErrMany, 1, -3},
		"DataAt below 0":       {objects(ok, withData(made("x"), -1)), api.ErrData, 1, -1},
		"DataAt beyond":        {objects(withData(made("x"), 4097), ok), api.ErrData, 0, -1},
		"data beyond":          {objects(ok, withData(made("x"), 4095, 1, 2)), api.ErrData, 1, -1},
		"a symbol of no name":  {objects(ok, withSymbols(made("x"), local("a", 0), local("9", 0))), api.ErrName, 1, 1},
		"a symbol twice":       {objects(ok, withSymbols(made("x"), weak("a", 0), local("b", 0), global("a", 0))), api.ErrTwice, 1, 2},
		"no kind":              {objects(ok, withSymbols(made("x"), api.Symbol{Name: "a", Kind: 4})), api.ErrKind, 1, 0},
		"no place":             {objects(ok, withSymbols(made("x", halt), local("a", 1), local("b", 2))), api.ErrPlace, 1, 1},
		"no relocation":        {objects(ok, withRelocs(withSymbols(made("x", halt), local("a", 0)), 0, 0)), api.ErrReloc, 1, 0},
		"no target":            {objects(ok, made("x", halt, jump(3))), api.ErrPlace, 1, -2},
		"one name":             {objects(ok, made("x"), made("ok")), api.ErrTwice, 2, -1},
		"two Global ones":      {objects(ok, withSymbols(made("x"), local("a", 0), global("other", 0))), api.ErrTwice, 1, 1},
		"undefined":            {objects(withSymbols(made("x"), wanted("other"), wanted("nowhere")), ok), api.ErrUndefined, 0, 1},
	}
}

func TestUnresolved(t *testing.T) {
	for what, u := range allUnresolved() {
		refuses(t, what+", and no entry", u.l, "main", 0, u.e, u.i, u.k)
		refuses(t, what, u.l, "other", 4096, u.e, u.i, u.k)
		if len(u.l) > 31 {
			continue
		}
		more := append(slices.Clone(u.l), withData(long("large", 16384), 4095, 1))
		refuses(t, what+", too large, and data beyond", more, "other", 0, u.e, u.i, u.k)
		more = append(slices.Clone(u.l), withData(made("one"), 0, 1), withData(made("two"), 0, 1))
		refuses(t, what+", and data over", more, "other", 1, u.e, u.i, u.k)
	}
}

func TestEntry(t *testing.T) {
	a := withSymbols(made("a", halt, halt), global("glob", 1), weak("weak", 2), weak("both", 0), local("loc", 1), wanted("far"))
	b := withSymbols(made("b", halt, halt, halt), global("both", 2), weak("weak", 1), local("here", 0), global("far", 3), wanted("glob"))
	text := []uint32{halt, halt, 0, halt, halt, halt, 0}
	for name, entry := range map[string]int{"glob": 1, "weak": 2, "both": 5, "far": 6} {
		links(t, "the entry "+name, objects(a, b), name, 0, api.Image{Text: text, Entry: entry})
	}
	for name, entry := range map[string]int{"glob": 5, "weak": 1, "both": 2, "far": 3} {
		links(t, "the entry "+name+", b ahead", objects(b, a), name, 0, api.Image{Text: []uint32{halt, halt, halt, 0, halt, halt, 0}, Entry: entry})
	}
	none := []string{"nowhere", "loc", "here", "a", "b", "Glob", "glo", "", "9", " glob", "glob\x00", strings.Repeat("glob", 1000)}
	for _, name := range none {
		refuses(t, fmt.Sprintf("the entry %.9q", name), objects(a, b), name, 0, api.ErrEntry, 0, 0)
		refuses(t, fmt.Sprintf("the entry %.9q, too large", name), objects(a, b, long("c", 16384)), name, 0, api.ErrEntry, 0, 0)
		refuses(t, fmt.Sprintf("the entry %.9q, data beyond", name), objects(a, withData(b, 1, 1)), name, 1, api.ErrEntry, 0, 0)
		refuses(t, fmt.Sprintf("the entry %.9q, data over", name), objects(withData(a, 0, 1), withData(b, 0, 1)), name, 1, api.ErrEntry, 0, 0)
	}
	refuses(t, "an entry that is Wanted alone", objects(made("a"), withSymbols(made("b"), wanted("main"))), "main", 0, api.ErrUndefined, 1, 0)
	refuses(t, "an entry that is Wanted and Local", objects(withSymbols(made("a"), local("main", 0)), withSymbols(made("b"), wanted("main"))), "main", 0, api.ErrUndefined, 1, 0)
	for _, memory := range []int{0, 4096} {
		refuses(t, "no objects", nil, "main", memory, api.ErrEntry, 0, 0)
		refuses(t, "no objects", []api.Object{}, "main", memory, api.ErrEntry, 0, 0)
		refuses(t, "no objects and no name", nil, "", memory, api.ErrEntry, 0, 0)
	}
	// Of several Weak ones that of the first object counts, even if it is a later symbol there.
	first := withSymbols(made("a", halt, halt), local("x", 0), weak("main", 2))
	second := withSymbols(made("b", halt), weak("main", 0))
	lays(t, "two Weak entries", objects(first, second), 2, halt, halt, 0, halt, 0)
	lays(t, "two Weak entries, the other way round", objects(second, first), 0, halt, 0, halt, halt, 0)
}

func TestLarge(t *testing.T) {
	// A list of so many words for each object; the number of the first whose Trap has no place, or -1.
	for _, k := range []struct {
		words []int
		first int
	}{
		{[]int{16383}, -1}, {[]int{16384}, 0},
		{[]int{16382, 0}, -1}, {[]int{16383, 0}, 1}, {[]int{16384, 0}, 0}, {[]int{0, 16382}, -1}, {[]int{0, 16383}, 1}, {[]int{0, 16384}, 1},
		{[]int{8191, 8191}, -1}, {[]int{8191, 8192}, 1}, {[]int{8192, 8191}, 1},
		{[]int{5, 16375, 0, 0}, -1}, {[]int{5, 16376, 0, 0}, 3}, {[]int{5, 16377, 0, 0}, 2}, {[]int{5, 16378, 0, 0}, 1}, {[]int{5, 16379, 0, 0}, 1},
		{[]int{16384, 16384, 16384}, 0}, {[]int{1, 16384, 16384}, 1}, {[]int{1, 1, 16384}, 2},
	} {
		var l []api.Object
		total := 0
		for number, words := range k.words {
			l = append(l, long(fmt.Sprintf("o%d", number), words))
			total += words + 1
		}
		l[0].Symbols = mainOf().Symbols
		what := fmt.Sprintf("codes of %v", k.words)
		if k.first < 0 {
			if x, e, i, at := link.Link(l, "main", 0); e != api.OK || i != 0 || at != 0 || len(x.Text) != total {
				t.Errorf("P9.1: %s: %d words, %d, %d, %d; not %d words", what, len(x.Text), e, i, at, total)
			}
			if bases, e := link.Bases(l); e != api.OK || len(bases) != len(l) {
				t.Errorf("P9.2: %s: %v, %d", what, bases, e)
			}
			continue
		}
		refuses(t, what, l, "main", 0, api.ErrLarge, k.first, 0)
		l[0] = withData(l[0], 3, 1)
		refuses(t, what+", data beyond", l, "main", 3, api.ErrLarge, k.first, 0)
		l = append(l, withData(made("over"), 3, 1))
		refuses(t, what+", data over", l, "main", 4, api.ErrLarge, k.first, 0)
		hasNoBases(t, what, l, api.ErrLarge)
	}
}

func TestFarTargets(t *testing.T) {
	a := withRelocs(withSymbols(long("a", 16380), global("main", 0), wanted("end")), 16379, 1)
	a.Code[0], a.Code[1], a.Code[16379] = jump(16380), call(16379), place(3, 0)
	b := withSymbols(made("b", zero(15, 2), jump(0)), global("end", 2))
	x, e, _, _ := link.Link(objects(a, b), "end", 0)
	want := append(slices.Clone(a.Code), 0, zero(15, 16383), jump(16381), 0)
	want[16379] = place(3, 16383)
	if e != api.OK || len(x.Text) != 16384 || !slices.Equal(x.Text, want) || x.Entry != 16383 {
		t.Errorf("P9.1: targets at the text's end: %d, %d words, entry %d, %x", e, len(x.Text), x.Entry, x.Text[max(0, len(x.Text)-6):])
	}
}

func TestData(t *testing.T) {
	m := mainOf(halt)
	fits := func(what string, memory []int64, l ...api.Object) {
		t.Helper()
		text := []uint32{}
		for _, o := range l {
			text = append(append(text, o.Code...), 0)
		}
		links(t, what, l, "main", len(memory), api.Image{Text: text, Memory: memory})
	}
	fits("data up to the end", []int64{0, 0, 5, 6}, withData(m, 2, 5, 6))
	fits("data from the beginning", []int64{5, 6, 0}, withData(m, 0, 5, 6))
	fits("data all over", []int64{5, 6}, withData(m, 0, 5, 6))
	fits("large numbers", []int64{math.MinInt64, 0, math.MaxInt64, -1}, withData(m, 0, math.MinInt64, 0, math.MaxInt64, -1))
	refuses(t, "data one beyond", objects(withData(m, 2, 5, 6)), "main", 3, api.ErrData, 0, 0)
	refuses(t, "data from the end on", objects(withData(m, 2, 5)), "main", 2, api.ErrData, 0, 0)
	refuses(t, "data from beyond the end on", objects(m, withData(made("a"), 9, 5)), "main", 2, api.ErrData, 1, 0)
	refuses(t, "data in no memory", objects(m, made("b"), withData(made("a"), 0, 0)), "main", 0, api.ErrData, 2, 0)
	last := make([]int64, 4096)
	last[4095] = -7
	fits("the last word of all", last, withData(m, 4095, -7))
	refuses(t, "the last word of all", objects(withData(m, 4095, -7)), "main", 4095, api.ErrData, 0, 0)
	for k := range last {
		last[k] = int64(k) - 2000
	}
	fits("all words", last, m, withData(made("a"), 0, last...))
	for _, at := range []int{0, 1, 2, 3, 4, 4095, 4096} {
		fits("no data", []int64{0, 0, 0}, withData(m, at), withData(made("a"), at))
		fits("no data and no memory", []int64{}, withData(m, at))
		fits("no data between other data", []int64{7, 8, 9}, withData(m, 0, 7, 8, 9), withData(made("a"), at))
		fits("no data ahead of other data", []int64{7, 8, 9}, withData(m, at), withData(made("a"), 0, 7, 8, 9))
	}
}

func TestDataMeets(t *testing.T) {
	a, b, c := withData(mainOf(halt), 2, 1, 2, 3), made("b"), made("c")
	text := []uint32{halt, 0, 0, 0}
	links(t, "side by side", objects(a, withData(b, 5, 4), withData(c, 0, 8, 9)), "main", 7, api.Image{Text: text, Memory: []int64{8, 9, 1, 2, 3, 4, 0}})
	links(t, "with gaps", objects(a, withData(b, 6, 4), withData(c, 0, 8)), "main", 7, api.Image{Text: text, Memory: []int64{8, 0, 1, 2, 3, 0, 4}})
	refusesOver := func(what string, number, at int, l ...api.Object) {
		t.Helper()
		refuses(t, what, l, "main", 10, api.ErrOver, number, at)
	}
	refusesOver("its first word", 1, 4, a, withData(b, 4, 0, 0, 0))
	refusesOver("its last word", 1, 2, a, withData(b, 0, 0, 0, 0))
	refusesOver("all words", 1, 2, a, withData(b, 2, 1, 2, 3))
	refusesOver("some words within", 1, 3, a, withData(b, 3, 0))
	refusesOver("all around", 1, 2, a, withData(b, 0, 0, 0, 0, 0, 0, 0, 0))
	refusesOver("two words behind", 1, 3, a, withData(b, 3, 1, 2, 3))
	refusesOver("an object further on", 2, 2, a, withData(b, 0, 1), withData(c, 1, 1, 1))
	refusesOver("a third with two ahead", 2, 3, withData(mainOf(halt), 6, 1), withData(b, 3, 1), withData(c, 1, 1, 1, 1, 1, 1, 1))
	refusesOver("two that meet", 1, 4, a, withData(b, 4, 1), withData(c, 2, 1))
	refusesOver("noughts meet noughts", 1, 0, withData(mainOf(halt), 0, 0), withData(b, 0, 0))
	refusesOver("the end of no data", 2, 4, a, withData(b, 3), withData(c, 4, 1))
	at4095 := func(name string) api.Object { return withData(made(name), 4095, 1) }
	refuses(t, "the last word", objects(a, at4095("b"), at4095("c")), "main", 4096, api.ErrOver, 2, 4095)
}

func TestDataOrOver(t *testing.T) {
	a, over, beyond := withData(mainOf(halt), 1, 1, 1), withData(made("o"), 2, 1), withData(made("b"), 4, 1)
	both := withData(made("x"), 2, 1, 1, 1)
	refuses(t, "over, then beyond", objects(a, over, beyond), "main", 4, api.ErrOver, 1, 2)
	refuses(t, "beyond, then over", objects(a, beyond, over), "main", 4, api.ErrData, 1, 0)
	refuses(t, "both at once", objects(a, both), "main", 4, api.ErrData, 1, 0)
	refuses(t, "both at once, behind over", objects(a, made("n"), over, both), "main", 4, api.ErrOver, 2, 2)
	refuses(t, "both at once, with more memory", objects(a, both), "main", 5, api.ErrOver, 1, 2)
	refuses(t, "over of what is beyond", objects(mainOf(halt), beyond, withData(made("y"), 4, 1)), "main", 4, api.ErrData, 1, 0)
}

// TestTargets goes through all words with a target, with and without a relocation, in each of three objects.
func TestTargets(t *testing.T) {
	code := []uint32{jump(0), zero(0, 1), zero(15, 2), call(3), place(0, 4), place(15, 6), halt}
	plain := func(base uint32) []uint32 {
		return []uint32{jump(base), zero(0, base+1), zero(15, base+2), call(base + 3), place(0, base+4), place(15, base+6), halt, 0}
	}
	own := withSymbols(made("a", code...), global("main", 0))
	lays(t, "own targets", objects(own, made("b", code...), made("c", code...)), 0, slices.Concat(plain(0), plain(8), plain(16))...)
	behind := made("d", jump(5), zero(9, 5), call(5), place(1, 5), goLink)
	lays(t, "targets behind the code", objects(own, behind), 0, slices.Concat(plain(0), []uint32{jump(13), zero(9, 13), call(13), place(1, 13), goLink, 0})...)

	aimed := func(name string, s ...api.Symbol) api.Object {
		return withRelocs(withSymbols(made(name, jump(0), zero(7, 0), halt, call(0), place(9, 0)), s...), 0, 0, 1, 1, 3, 2, 4, 3)
	}
	a := aimed("a", local("here", 2), global("main", 1), weak("own", 5), wanted("far"))
	b := aimed("b", wanted("main"), weak("own", 1), local("here", 5), global("far", 3))
	lays(t, "relocations", objects(a, b), 1,
		jump(2), zero(7, 1), halt, call(5), place(9, 9), 0,
		jump(1), zero(7, 5), halt, call(11), place(9, 9), 0)
	lays(t, "relocations, the other way round", objects(b, a), 7,
		jump(7), zero(7, 1), halt, call(5), place(9, 3), 0,
		jump(8), zero(7, 7), halt, call(1), place(9, 3), 0)
	b.Symbols[1] = global("own", 1)
	lays(t, "a Weak one for another object's Global one", objects(a, b), 1,
		jump(2), zero(7, 1), halt, call(7), place(9, 9), 0,
		jump(1), zero(7, 7), halt, call(11), place(9, 9), 0)
}

// TestOfNoTarget: N of these words is a number, or they are no instruction, though they look like a jump.
func TestOfNoTarget(t *testing.T) {
	code := []uint32{0, 1, 5, halt, goLink, set15, outWord, 1<<27 | 0x7fff, 11<<27 | 3, 12<<27 | 0x3fff, 13<<27 | 15<<23, 2<<27 | 1<<23 | 2<<19, 18<<27 | 1<<19, 22 << 27, 31<<27 | 7, math.MaxUint32,
		jump(0x4000), jump(0x7fff), jump(3) | 1<<15, jump(3) | 1<<19, jump(3) | 1<<23, zero(1, 2) | 1<<23, zero(1, 2) | 1<<15, zero(1, 0x4001), call(1) | 1<<19, call(0x4000), place(1, 2) | 1<<19, place(1, 2) | 1<<15, place(1, 0x5000), halt | 1, goLink | 1}
	lays(t, "words of no target", objects(mainOf(code...), made("b", code...)), 0, slices.Concat(code, []uint32{0}, code, []uint32{0})...)
	lays(t, "behind another object", objects(made("b", halt), mainOf(code...)), 2, slices.Concat([]uint32{halt, 0}, code, []uint32{0})...)
}

// TestMixedTargets: a target 0 without a relocation stands beside one with it.
func TestMixedTargets(t *testing.T) {
	o := withRelocs(withSymbols(made("o", call(0), call(0), jump(0), jump(0), place(1, 0)), wanted("main")), 1, 0, 3, 0)
	lays(t, "behind", objects(mainOf(halt), o), 0, halt, 0, call(2), call(0), jump(2), jump(0), place(1, 2), 0)
	lays(t, "ahead", objects(o, mainOf(halt)), 6, call(0), call(6), jump(0), jump(6), place(1, 0), 0, halt, 0)
	own := withRelocs(withSymbols(made("o", call(0), call(0), jump(1)), wanted("main"), local("x", 3)), 0, 1)
	lays(t, "behind, to its own Trap", objects(mainOf(halt), own), 0, halt, 0, call(5), call(2), jump(3), 0)
}

func TestWithoutParts(t *testing.T) {
	lays(t, "no code", objects(mainOf()), 0, 0)
	lays(t, "no code in several", objects(made("a"), mainOf(), made("b")), 1, 0, 0, 0)
	empty := api.Object{Name: "e", Code: []uint32{}, Data: []int64{}, Symbols: []api.Symbol{}, Relocs: []api.Reloc{}}
	lays(t, "empty lists (R4)", objects(empty, mainOf(jump(1))), 1, 0, jump(2), 0)
	user := withRelocs(withSymbols(made("u", call(0), call(0), jump(2)), wanted("bare"), wanted("main")), 0, 0, 1, 1)
	bare := withSymbols(made("b"), global("bare", 0))
	lays(t, "a call of what has no code", objects(mainOf(halt), user, bare), 0, halt, 0, call(6), call(0), jump(4), 0, 0)
	links(t, "data alone", objects(withData(mainOf(), 1, 4)), "main", 2, api.Image{Text: []uint32{0}, Memory: []int64{0, 4}})
	l := objects(mainOf())
	for k := range 31 {
		l = append(l, made(fmt.Sprintf("o%d", k)))
	}
	lays(t, "32 objects without code", l, 0, make([]uint32, 32)...)
}

func TestManyObjects(t *testing.T) {
	var l []api.Object
	want := api.Image{Entry: 5 * 31}
	for k := range 32 {
		// Each calls the next one's place 2, the last one the first one's, and jumps to its own Trap.
		name, next := fmt.Sprintf("f%d", k), (k+1)%32
		o := withSymbols(made(name, call(0), jump(4), set15, goLink), wanted(fmt.Sprintf("f%d", next)), global(name, 2), weak("main", 4))
		if k == 31 {
			o.Symbols[2] = global("main", 0)
		}
		l = append(l, withData(withRelocs(o, 0, 0), 31-k, int64(k)))
		want.Text = append(want.Text, call(uint32(5*next+2)), jump(uint32(5*k+4)), set15, goLink, 0)
		want.Memory = append(want.Memory, int64(31-k))
	}
	links(t, "32 objects", l, "main", 32, want)
	refuses(t, "33 objects", append(l, made("more")), "main", 32, api.ErrMany, 32, 0)
}

func TestBases(t *testing.T) {
	hasBases(t, "no objects", []api.Object{})
	hasBases(t, "one without code", objects(made("a")), 0)
	hasBases(t, "several", objects(made("a", halt), made("b"), made("c", 0, 1, 2), made("d", 5)), 0, 2, 3, 7)
	var l []api.Object
	var want []int
	for k := range 32 {
		l, want = append(l, long(fmt.Sprintf("o%d", k), k)), append(want, k*(k+1)/2)
	}
	hasBases(t, "32 objects", l, want...)
	for _, more := range []api.Object{made("more"), {}, long("more", 16384)} {
		hasNoBases(t, "33 objects", append(slices.Clone(l), more), api.ErrMany)
	}
	hasNoBases(t, "33 objects, too large", append(objects(long("a", 20000)), l...), api.ErrMany)
	hasNoBases(t, "many objects", make([]api.Object, 1000), api.ErrMany)
	hasBases(t, "as many words as can be", objects(long("a", 16383)), 0)
	hasBases(t, "as many words as can be, the last a Trap", objects(long("a", 16382), made("b")), 0, 16383)
	hasBases(t, "as many words as can be, of three", objects(long("a", 10000), long("b", 6000), long("c", 381)), 0, 10001, 16002)
	hasNoBases(t, "one word more, of three", objects(long("a", 10000), long("b", 6000), long("c", 382)), api.ErrLarge)
	hasNoBases(t, "one word more", objects(long("a", 16384)), api.ErrLarge)
	hasNoBases(t, "one Trap more", objects(long("a", 16383), made("b")), api.ErrLarge)
	hasNoBases(t, "one Trap more, ahead", objects(made("b"), long("a", 16383)), api.ErrLarge)
}

// TestBasesOfRefused: P9.2 asks of the objects only how many they are, and how long.
func TestBasesOfRefused(t *testing.T) {
	hasBases(t, "nothing at all", make([]api.Object, 32), func() (l []int) {
		for k := range 32 {
			l = append(l, k)
		}
		return l
	}()...)
	for what, u := range allUnresolved() {
		if len(u.l) > 32 || slices.ContainsFunc(u.l, func(o api.Object) bool { return len(o.Code) > 16000 }) {
			continue
		}
		var want []int
		next := 0
		for _, o := range u.l {
			want, next = append(want, next), next+len(o.Code)+1
		}
		hasBases(t, what, u.l, want...)
	}
	huge := make([]uint32, 1<<20)
	hasNoBases(t, "too much code", objects(made("a", huge...)), api.ErrLarge)
	l := make([]api.Object, 32)
	for k := range l {
		l[k].Code = huge
	}
	hasNoBases(t, "much too much code", l, api.ErrLarge)
}
