package list_test

import (
	"fmt"
	"math"
	"math/rand"
	"slices"
	"strings"
	"testing"
	"unsafe"

	"pleat/api"
	"pleat/asm"
	"pleat/list"
	"pleat/object"
)

// sample tells an object that may be: symbols of each kind, relocations in each op that has a target, targets of its own, a word that is no instruction.
func sample() api.Object {
	return api.Object{
		Name: "main.o",
		Code: []uint32{
			named("call", 0), named("zero", 2, 0), named("set", 3, -7), named("place", 3, 0), 0xFFFFFFFF, named("jump", 8), named("jump", 0), named("jump", 0),
		},
		DataAt: 513,
		Data:   []int64{-1, 1 << 40, 0},
		Symbols: []api.Symbol{
			{Name: "f", Kind: api.Wanted}, {Name: "here", Kind: api.Local, At: 2}, {Name: "_start", Kind: api.Global}, {Name: "end.9", Kind: api.Weak, At: 8},
		},
		Relocs: []api.Reloc{{At: 0, Sym: 0}, {At: 1, Sym: 1}, {At: 3, Sym: 3}, {At: 7, Sym: 0}},
	}
}

const sampleText = "object main.o/data 513 -1 1099511627776 0/wanted f/local here 2/global _start 0/weak end.9 8/" +
	"call f/zero 2 here/set 3 -7/place 3 end.9/word 4294967295/jump 8/jump 0/jump f/"

// lines tells a text in which each / is a line's end.
func lines(s string) string { return strings.ReplaceAll(s, "/", "\n") }

func same(a, b api.Object) bool {
	return a.Name == b.Name && a.DataAt == b.DataAt && slices.Equal(a.Code, b.Code) && slices.Equal(a.Data, b.Data) &&
		slices.Equal(a.Symbols, b.Symbols) && slices.Equal(a.Relocs, b.Relocs)
}

// plainObject tells the lines of an object that may be.
func plainObject(o api.Object) string {
	var all []string
	all = append(all, "object "+o.Name)
	if len(o.Data) > 0 || o.DataAt != 0 {
		all = append(all, strings.TrimSuffix(fmt.Sprintf("data %d %s", o.DataAt, strings.Trim(fmt.Sprint(o.Data), "[]")), " "))
	}
	for _, s := range o.Symbols {
		switch s.Kind {
		case api.Wanted:
			all = append(all, "wanted "+s.Name)
		default:
			all = append(all, fmt.Sprintf("%s %s %d", []string{"local", "global", "weak"}[s.Kind], s.Name, s.At))
		}
	}
	from := len(all)
	for _, w := range o.Code {
		all = append(all, plainIns(w))
	}
	for _, r := range o.Relocs {
		line := all[from+r.At]
		all[from+r.At] = line[:strings.LastIndex(line, " ")+1] + o.Symbols[r.Sym].Name
	}
	return strings.Join(all, "\n") + "\n"
}

// toldAs asks that o is told so, that Objects tells it just so, and that it is read as o.
func toldAs(t *testing.T, what string, o api.Object, want string) {
	t.Helper()
	if s, e := list.Object(o); e != api.OK || s != want {
		t.Errorf("P6.2: %s: Object is %q, %d; not %q", what, s, e, want)
	}
	if s, e := list.Objects([]api.Object{o}); e != api.OK || s != want {
		t.Errorf("P6.3: %s: Objects of it alone is %q, %d; not %q", what, s, e, want)
	}
	if l, e, line := asm.Read([]byte(want)); e != api.OK || line != 0 || len(l) != 1 || !same(l[0], o) {
		t.Errorf("W6: %s: %q is read as %v, %d at %d", what, want, l, e, line)
	}
}

func TestObjectExamples(t *testing.T) {
	toldAs(t, "the chapter's example", api.Object{
		Name: "a", Code: []uint32{0x88000000, 0x78000001}, DataAt: 2, Data: []int64{7},
		Symbols: []api.Symbol{{Name: "f", Kind: api.Wanted}, {Name: "main", Kind: api.Global}}, Relocs: []api.Reloc{{At: 0, Sym: 0}},
	}, lines("object a/data 2 7/wanted f/global main 0/call f/jump 1/"))
	toldAs(t, "one of all kinds", sample(), lines(sampleText))
}

func TestObjectOfEmptyLists(t *testing.T) {
	toldAs(t, "a name alone", api.Object{Name: "a"}, "object a\n")
	toldAs(t, "lists without elements", api.Object{Name: "a", Code: []uint32{}, Data: []int64{}, Symbols: []api.Symbol{}, Relocs: []api.Reloc{}}, "object a\n")
	toldAs(t, "a name of 24 bytes", api.Object{Name: "_" + strings.Repeat("n.9", 7) + "ZZ"}, "object _n.9n.9n.9n.9n.9n.9n.9ZZ\n")
	toldAs(t, "code alone", api.Object{Name: "a", Code: []uint32{0}}, "object a\ntrap\n")
	toldAs(t, "symbols alone", api.Object{Name: "a", Symbols: []api.Symbol{{Name: "x", Kind: api.Weak}}}, "object a\nweak x 0\n")
	toldAs(t, "data alone", api.Object{Name: "a", Data: []int64{0}}, "object a\ndata 0 0\n")

	none := sample()
	none.Code, none.Relocs = nil, nil
	none.Symbols[1].At, none.Symbols[3].At = 0, 0
	toldAs(t, "no code", none, lines("object main.o/data 513 -1 1099511627776 0/wanted f/local here 0/global _start 0/weak end.9 0/"))
	bare := sample()
	bare.Symbols, bare.Relocs = nil, nil
	toldAs(t, "no symbols", bare, lines("object main.o/data 513 -1 1099511627776 0/call 0/zero 2 0/set 3 -7/place 3 0/word 4294967295/jump 8/jump 0/jump 0/"))
	empty := sample()
	empty.Data, empty.DataAt = nil, 0
	toldAs(t, "no data", empty, lines(strings.Replace(sampleText, "data 513 -1 1099511627776 0/", "", 1)))
}

func TestObjectData(t *testing.T) {
	for want, o := range map[string]api.Object{
		"":                 {},
		"data 0 1 2/":      {Data: []int64{1, 2}},
		"data 0 0 0 0/":    {Data: []int64{0, 0, 0}},
		"data 1/":          {DataAt: 1},
		"data 9/":          {DataAt: 9, Data: []int64{}},
		"data 4095/":       {DataAt: 4095},
		"data 4096/":       {DataAt: 4096},
		"data 4095 -3/":    {DataAt: 4095, Data: []int64{-3}},
		"data 1 -10 10 9/": {DataAt: 1, Data: []int64{-10, 10, 9}},
		"data 0 -9223372036854775808 9223372036854775807 -9223372036854775807/": {Data: []int64{math.MinInt64, math.MaxInt64, math.MinInt64 + 1}},
	} {
		o.Name = "a"
		toldAs(t, "data", o, lines("object a/"+want))
	}
	full := api.Object{Name: "a", Data: make([]int64, 4096)}
	for k := range full.Data {
		full.Data[k] = int64(k % 10)
	}
	toldAs(t, "as much data as may be", full, "object a\ndata 0"+strings.Repeat(" 0 1 2 3 4 5 6 7 8 9", 409)+" 0 1 2 3 4 5\n")
}

func TestObjectSymbols(t *testing.T) {
	for kind, name := range []string{"local", "global", "weak"} {
		for at := range 3 {
			o := api.Object{Name: "a", Code: []uint32{0, 0}, Symbols: []api.Symbol{{Name: "x", Kind: int8(kind), At: at}}}
			toldAs(t, "a symbol", o, fmt.Sprintf("object a\n%s x %d\ntrap\ntrap\n", name, at))
		}
	}
	toldAs(t, "a Wanted symbol", api.Object{Name: "a", Code: []uint32{0}, Symbols: []api.Symbol{{Name: "x", Kind: api.Wanted}}}, "object a\nwanted x\ntrap\n")
	toldAs(t, "words of the language as names", api.Object{
		Name: "object", Code: []uint32{named("jump", 0), named("call", 0)},
		Symbols: []api.Symbol{{Name: "word", Kind: api.Global, At: 2}, {Name: "object", Kind: api.Wanted}, {Name: "jump"}, {Name: "wanted", Kind: api.Weak}},
		Relocs:  []api.Reloc{{At: 0, Sym: 2}, {At: 1, Sym: 0}},
	}, lines("object object/global word 2/wanted object/local jump 0/weak wanted 0/jump jump/call word/"))
	toldAs(t, "symbols in their order, not by name or place", api.Object{
		Name: "z", Code: []uint32{0, 0}, Symbols: []api.Symbol{{Name: "c", At: 2}, {Name: "a", At: 1}, {Name: "b", Kind: api.Wanted}, {Name: "B", At: 0}},
	}, lines("object z/local c 2/local a 1/wanted b/local B 0/trap/trap/"))
	many := api.Object{Name: "a"}
	want := "object a\n"
	for k := range 256 {
		many.Symbols = append(many.Symbols, api.Symbol{Name: fmt.Sprintf("s%d", k), Kind: int8(k % 4)})
		want += fmt.Sprintf([]string{"local s%d 0\n", "global s%d 0\n", "weak s%d 0\n", "wanted s%d\n"}[k%4], k)
	}
	toldAs(t, "256 symbols", many, want)
}

func TestObjectRelocs(t *testing.T) {
	code := []uint32{named("zero", 9, 0), named("jump", 0), named("call", 4), named("place", 15, 0)}
	symbols := []api.Symbol{{Name: "f", Kind: api.Wanted}, {Name: "g", At: 4}, {Name: "h", Kind: api.Global}}
	head := "object a/wanted f/local g 4/global h 0/"
	for want, relocs := range map[string][]api.Reloc{
		"zero 9 0/jump 0/call 4/place 15 0/": nil,
		"zero 9 f/jump 0/call 4/place 15 0/": {{At: 0, Sym: 0}},
		"zero 9 h/jump 0/call 4/place 15 0/": {{At: 0, Sym: 2}},
		"zero 9 0/jump 0/call 4/place 15 g/": {{At: 3, Sym: 1}},
		"zero 9 0/jump g/call 4/place 15 0/": {{At: 1, Sym: 1}},
		"zero 9 f/jump 0/call 4/place 15 f/": {{At: 0, Sym: 0}, {At: 3, Sym: 0}},
		"zero 9 h/jump g/call 4/place 15 f/": {{At: 0, Sym: 2}, {At: 1, Sym: 1}, {At: 3, Sym: 0}},
		"zero 9 g/jump g/call 4/place 15 g/": {{At: 0, Sym: 1}, {At: 1, Sym: 1}, {At: 3, Sym: 1}},
	} {
		toldAs(t, "relocations", api.Object{Name: "a", Code: code, Symbols: symbols, Relocs: relocs}, lines(head+want))
	}
	one := api.Object{Name: "a", Code: []uint32{named("call", 0)}, Symbols: symbols[:1], Relocs: []api.Reloc{{}}}
	toldAs(t, "the one word that there is", one, lines("object a/wanted f/call f/"))
	one.Relocs = nil
	toldAs(t, "a target that no relocation names", one, lines("object a/wanted f/call 0/"))
}

// refused tells objects that object.Check refuses, with its error, one for each thing that it asks.
func refused() map[string]struct {
	turn func(*api.Object)
	e    api.Errno
} {
	type wrong = struct {
		turn func(*api.Object)
		e    api.Errno
	}
	return map[string]wrong{
		"no name":                  {func(o *api.Object) { o.Name = "" }, api.ErrName},
		"a name of 25 bytes":       {func(o *api.Object) { o.Name = strings.Repeat("n", 25) }, api.ErrName},
		"a line's end in the name": {func(o *api.Object) { o.Name = "a\n" }, api.ErrName},
		"too much code":            {func(o *api.Object) { o.Code = append(o.Code, make([]uint32, 16384)...) }, api.ErrMany},
		"too many symbols":         {func(o *api.Object) { o.Symbols = append(o.Symbols, make([]api.Symbol, 256)...) }, api.ErrMany},
		"too many relocations":     {func(o *api.Object) { o.Relocs = append(o.Relocs, make([]api.Reloc, 8)...) }, api.ErrMany},
		"data below 0":             {func(o *api.Object) { o.DataAt = -1 }, api.ErrData},
		"data behind the memory":   {func(o *api.Object) { o.DataAt = 4097 }, api.ErrData},
		"too much data":            {func(o *api.Object) { o.Data = make([]int64, 4000) }, api.ErrData},
		"a symbol's name":          {func(o *api.Object) { o.Symbols[2].Name = "9" }, api.ErrName},
		"a blank in a name":        {func(o *api.Object) { o.Symbols[0].Name = "a b" }, api.ErrName},
		"a name twice":             {func(o *api.Object) { o.Symbols[3].Name = "f" }, api.ErrTwice},
		"a kind above 3":           {func(o *api.Object) { o.Symbols[1].Kind = 4 }, api.ErrKind},
		"a kind below 0":           {func(o *api.Object) { o.Symbols[1].Kind = -1 }, api.ErrKind},
		"a symbol behind the code": {func(o *api.Object) { o.Symbols[1].At = 9 }, api.ErrPlace},
		"a symbol ahead of it":     {func(o *api.Object) { o.Symbols[1].At = -1 }, api.ErrPlace},
		"a Wanted symbol at 1":     {func(o *api.Object) { o.Symbols[0].At = 1 }, api.ErrPlace},
		"a relocation below 0":     {func(o *api.Object) { o.Relocs[0].At = -1 }, api.ErrReloc},
		"a relocation behind all":  {func(o *api.Object) { o.Relocs[3].At = 8 }, api.ErrReloc},
		"relocations that fall":    {func(o *api.Object) { o.Relocs[1], o.Relocs[2] = o.Relocs[2], o.Relocs[1] }, api.ErrReloc},
		"a relocation twice":       {func(o *api.Object) { o.Relocs[1] = o.Relocs[0] }, api.ErrReloc},
		"no symbol's number":       {func(o *api.Object) { o.Relocs[2].Sym = 4 }, api.ErrReloc},
		"a symbol's number of -1":  {func(o *api.Object) { o.Relocs[2].Sym = -1 }, api.ErrReloc},
		"a word without a target":  {func(o *api.Object) { o.Code[1] = named("set", 1, 0) }, api.ErrReloc},
		"a word with no fields":    {func(o *api.Object) { o.Code[0] = 0 }, api.ErrReloc},
		"a target other than 0":    {func(o *api.Object) { o.Code[0] = named("call", 1) }, api.ErrReloc},
		"a target behind the code": {func(o *api.Object) { o.Code[5] = named("jump", 9) }, api.ErrPlace},
	}
}

func TestObjectRefuses(t *testing.T) {
	for what, wrong := range refused() {
		o := sample()
		wrong.turn(&o)
		if e, _ := object.Check(o); e != wrong.e {
			t.Errorf("%s: Check is %d, not %d", what, e, wrong.e)
		}
		if s, e := list.Object(o); e != wrong.e || s != "" {
			t.Errorf("P6.2: %s: Object is %q, %d; not nothing, %d", what, s, e, wrong.e)
		}
		if s, e := list.Objects([]api.Object{o}); e != wrong.e || s != "" {
			t.Errorf("P6.3: %s: Objects is %q, %d; not nothing, %d", what, s, e, wrong.e)
		}
		// Whichever other one stands behind: the first is told.
		for other, later := range refused() {
			second := sample()
			later.turn(&second)
			if s, e := list.Objects([]api.Object{sample(), o, second}); e != wrong.e || s != "" {
				t.Errorf("P6.3: %s ahead of %s: Objects is %q, %d; not nothing, %d", what, other, s, e, wrong.e)
			}
		}
	}
	if s, e := list.Object(api.Object{}); e != api.ErrName || s != "" {
		t.Errorf("P6.2: nothing at all: Object is %q, %d", s, e)
	}
}

func TestObjects(t *testing.T) {
	for _, none := range [][]api.Object{nil, {}, make([]api.Object, 0, 3)} {
		if s, e := list.Objects(none); s != "" || e != api.OK {
			t.Errorf("P6.3, R4: Objects of none is %q, %d", s, e)
		}
	}
	a, b := api.Object{Name: "a", DataAt: 3}, api.Object{Name: "b", Code: []uint32{0, 1}, Symbols: []api.Symbol{{Name: "x", At: 2}}}
	textOf := map[string]string{"a": "object a/data 3/", "b": "object b/local x 2/trap/word 1/", "main.o": sampleText}
	for _, l := range [][]api.Object{{a}, {b}, {a, b}, {b, a}, {a, a}, {sample(), a, b}, {b, sample(), sample(), b}, slices.Repeat([]api.Object{a, b}, 40)} {
		want := ""
		for _, o := range l {
			want += lines(textOf[o.Name])
		}
		s, e := list.Objects(l)
		if e != api.OK || s != want {
			t.Errorf("P6.3: Objects is %q, %d; not %q", s, e, want)
		}
		if back, e, line := asm.Read([]byte(s)); e != api.OK || line != 0 || !slices.EqualFunc(back, l, same) {
			t.Errorf("W6: %q is read as %v, %d at %d", s, back, e, line)
		}
	}
	for k := range 4 {
		l := []api.Object{a, b, sample(), a}
		l[k] = api.Object{Name: "a", DataAt: -1}
		if s, e := list.Objects(l); s != "" || e != api.ErrData {
			t.Errorf("P6.3: number %d is refused: Objects is %q, %d", k, s, e)
		}
	}
}

// ofLength tells an object whose text has so many bytes.
func ofLength(t *testing.T, bytes int) (api.Object, string) {
	t.Helper()
	o := api.Object{Name: "a"}
	// A trap takes five bytes; up to four more are taken by a longer name.
	left := bytes - len("object a\n")
	o.Code = make([]uint32, left/5)
	o.Name += strings.Repeat("b", left%5)
	want := "object " + o.Name + "\n" + strings.Repeat("trap\n", left/5)
	if len(want) != bytes {
		t.Fatalf("the text has %d bytes, not %d", len(want), bytes)
	}
	return o, want
}

func TestTextsAtMaxSource(t *testing.T) {
	for _, bytes := range []int{1<<16 - 1, 1 << 16} {
		o, want := ofLength(t, bytes)
		toldAs(t, fmt.Sprintf("a text of %d bytes", bytes), o, want)
	}
	for _, bytes := range []int{1<<16 + 1, 1<<16 + 2, 80000} {
		o, want := ofLength(t, bytes)
		if s, e := list.Object(o); e != api.OK || s != want {
			t.Errorf("P6.2: a text of %d bytes: Object is one of %d bytes, %d", bytes, len(s), e)
		}
		if _, e, _ := asm.Read([]byte(want)); e != api.ErrMany {
			t.Errorf("P5.1: a text of %d bytes is read, %d", bytes, e)
		}
	}
	// Two that are read alone and not together are told all the same.
	o, want := ofLength(t, 40000)
	if s, e := list.Objects([]api.Object{o, o}); e != api.OK || s != want+want {
		t.Errorf("P6.3: two texts of 40000 bytes: Objects is one of %d bytes, %d", len(s), e)
	}
}

func TestObjectAtItsLimits(t *testing.T) {
	o := api.Object{Name: strings.Repeat("n", 24), Code: slices.Repeat([]uint32{named("place", 15, 0)}, 16384), Data: slices.Repeat([]int64{math.MinInt64}, 4096)}
	for k := range 256 {
		o.Symbols = append(o.Symbols, api.Symbol{Name: fmt.Sprintf("s%023d", k), Kind: int8(k % 3), At: 16384})
	}
	for at := range o.Code {
		o.Relocs = append(o.Relocs, api.Reloc{At: at, Sym: at % 256})
	}
	if s, e := list.Object(o); e != api.OK || s != plainObject(o) {
		t.Errorf("P6.2: all at its limit: Object is a text of %d bytes, %d", len(s), e)
	}
	o.Relocs = nil
	for at := range o.Code {
		o.Code[at] = named("jump", 16383)
	}
	if s, e := list.Object(o); e != api.OK || s != plainObject(o) {
		t.Errorf("P6.2: targets at their limit: Object is a text of %d bytes, %d", len(s), e)
	}
}

// turned tells the sample and objects that are each unlike it, and unlike each other, by one thing.
func turned() []api.Object {
	turns := []func(*api.Object){
		func(o *api.Object) {},
		func(o *api.Object) { o.Name = "main.p" },
		func(o *api.Object) { o.Name = "main" },
		func(o *api.Object) { o.DataAt = 514 },
		func(o *api.Object) { o.DataAt = 0 },
		func(o *api.Object) { o.Data = nil },
		func(o *api.Object) { o.Data, o.DataAt = nil, 0 },
		func(o *api.Object) { o.Data = o.Data[:2] },
		func(o *api.Object) { o.Data = o.Data[1:] },
		func(o *api.Object) { o.Data[0] = 1 },
		func(o *api.Object) { o.Data[0], o.Data[2] = 0, -1 },
		func(o *api.Object) { o.Data = append([]int64{513}, o.Data...) },
		func(o *api.Object) { o.Symbols[0].Name = "g" },
		func(o *api.Object) { o.Symbols[0].Kind = api.Local },
		func(o *api.Object) { o.Symbols[0].Kind = api.Global },
		func(o *api.Object) { o.Symbols[0].Kind = api.Weak },
		func(o *api.Object) { o.Symbols[1].At = 3 },
		func(o *api.Object) { o.Symbols[1].Kind = api.Weak },
		func(o *api.Object) { o.Symbols[1], o.Symbols[2] = o.Symbols[2], o.Symbols[1] },
		func(o *api.Object) { o.Symbols[2].Name = "_Start" },
		func(o *api.Object) { o.Symbols = append(o.Symbols, api.Symbol{Name: "more"}) },
		func(o *api.Object) { o.Relocs = nil },
		func(o *api.Object) { o.Relocs = o.Relocs[1:] },
		func(o *api.Object) { o.Relocs = o.Relocs[:3] },
		func(o *api.Object) { o.Relocs[3].At = 6 },
		func(o *api.Object) { o.Relocs[3].Sym = 1 },
		func(o *api.Object) { o.Relocs[0].Sym = 2 },
		func(o *api.Object) { o.Code[0] = named("jump", 0) },
		func(o *api.Object) { o.Code[1] = named("zero", 3, 0) },
		func(o *api.Object) { o.Code[2] = named("set", 3, 7) },
		func(o *api.Object) { o.Code[4] = 0 },
		func(o *api.Object) { o.Code[4] = 1 },
		func(o *api.Object) { o.Code[5] = named("jump", 7) },
		func(o *api.Object) { o.Code[5] = named("call", 8) },
		func(o *api.Object) { o.Code = append(o.Code, 0) },
		func(o *api.Object) { o.Code, o.Relocs = slices.Insert(o.Code, 0, 0), []api.Reloc{{At: 1}} },
	}
	var all []api.Object
	for _, turn := range turns {
		o := sample()
		turn(&o)
		all = append(all, o)
	}
	return all
}

func TestUnlikeObjects(t *testing.T) {
	of := map[string]api.Object{}
	for k, o := range turned() {
		s, e := list.Object(o)
		if e != api.OK || s != plainObject(o) {
			t.Fatalf("P6.2: number %d: Object is %q, %d", k, s, e)
		}
		if other, met := of[s]; met {
			t.Errorf("W6: number %d: %v and %v are both %q", k, o, other, s)
		}
		of[s] = o
		toldAs(t, fmt.Sprintf("number %d", k), o, s)
	}
	for _, o := range turned() {
		one, _ := list.Objects([]api.Object{o})
		two, _ := list.Objects([]api.Object{o, o})
		if one == two {
			t.Errorf("W6: one and two of %v are both %q", o, one)
		}
	}
}

// anyObject tells one that may be.
func anyObject(r *rand.Rand) api.Object {
	o := api.Object{Name: anyName(r)}
	if r.Intn(2) == 0 {
		o.DataAt = r.Intn(4000)
	}
	for range r.Intn(6) {
		o.Data = append(o.Data, int64(r.Uint64())>>r.Intn(64))
	}
	words := r.Intn(12)
	for k := range r.Intn(6) {
		s := api.Symbol{Name: fmt.Sprintf("%c%d", anyName(r)[0], k), Kind: int8(r.Intn(4))}
		if s.Kind != api.Wanted {
			s.At = r.Intn(words + 1)
		}
		o.Symbols = append(o.Symbols, s)
	}
	for at := range words {
		number := r.Intn(len(ops) + 1)
		switch {
		case number == len(ops):
			o.Code = append(o.Code, r.Uint32()|0xF8000000)
		case strings.Contains(ops[number].fields, "P"):
			target := r.Intn(words + 1)
			if len(o.Symbols) > 0 && r.Intn(2) == 0 {
				target = 0
				o.Relocs = append(o.Relocs, api.Reloc{At: at, Sym: r.Intn(len(o.Symbols))})
			}
			o.Code = append(o.Code, word(number, choices(ops[number].fields, map[byte][]int{'D': {r.Intn(16)}, 'A': {r.Intn(16)}, 'P': {target}})[0]...))
		default:
			row := choices(ops[number].fields, map[byte][]int{'D': {r.Intn(16)}, 'A': {r.Intn(16)}, 'B': {r.Intn(16)}, 'N': {r.Intn(32768) - 16384}})[0]
			o.Code = append(o.Code, word(number, row...))
		}
	}
	return o
}

func anyName(r *rand.Rand) string {
	const first = "abcdefghijklmnopqrstuvwxyzABCDEFGHIJKLMNOPQRSTUVWXYZ_"
	const later = first + "0123456789."
	name := []byte{first[r.Intn(len(first))]}
	for range r.Intn(24) {
		name = append(name, later[r.Intn(len(later))])
	}
	return string(name)
}

func TestThereAndBack(t *testing.T) {
	r := rand.New(rand.NewSource(66))
	for range 5000 {
		var l []api.Object
		want := ""
		for range r.Intn(5) {
			o := anyObject(r)
			l = append(l, o)
			want += plainObject(o)
		}
		s, e := list.Objects(l)
		if e != api.OK || s != want {
			t.Fatalf("P6.3: %v: Objects is %q, %d; not %q", l, s, e, want)
		}
		back, e, line := asm.Read([]byte(s))
		if e != api.OK || line != 0 || !slices.EqualFunc(back, l, same) {
			t.Fatalf("W6: %v is told as %q, and that is read as %v, %d at %d", l, s, back, e, line)
		}
		if again, e := list.Objects(back); e != api.OK || again != s {
			t.Fatalf("W6: %q is read, and told as %q, %d", s, again, e)
		}
	}
}

// roomy tells the list with room behind it, in which something stands.
func roomy[T any](l []T, fill T) []T {
	whole := append(slices.Clone(l), fill, fill, fill)
	return whole[:len(l)]
}

func TestObjectIsLeftAsItWas(t *testing.T) {
	fresh := func() api.Object {
		o := sample()
		o.Code, o.Data = roomy(o.Code, 77), roomy(o.Data, 78)
		o.Symbols, o.Relocs = roomy(o.Symbols, api.Symbol{Name: "spare", Kind: 9, At: 79}), roomy(o.Relocs, api.Reloc{At: 80, Sym: 81})
		return o
	}
	whole := func(o api.Object) api.Object {
		o.Code, o.Data = o.Code[:len(o.Code)+3], o.Data[:len(o.Data)+3]
		o.Symbols, o.Relocs = o.Symbols[:len(o.Symbols)+3], o.Relocs[:len(o.Relocs)+3]
		return o
	}
	o, l := fresh(), roomy([]api.Object{fresh(), fresh()}, api.Object{Name: "spare"})
	refusedOne := fresh()
	refusedOne.Symbols[1].Kind = 4
	list.Object(o)
	list.Objects(l)
	list.Object(refusedOne)
	if !same(whole(o), whole(fresh())) {
		t.Errorf("R5: the object that was handed in is %v now", whole(o))
	}
	for k, o := range l[:5] {
		if k < 2 && !same(whole(o), whole(fresh())) || k >= 2 && !same(o, api.Object{Name: "spare"}) {
			t.Errorf("R5: number %d of the list that was handed in is %v now", k, o)
		}
	}
	if refusedOne.Symbols[1].Kind = api.Local; !same(whole(refusedOne), whole(fresh())) {
		t.Errorf("R5: an object that is refused is %v now", whole(refusedOne))
	}
}

func TestTextsAreNewMemory(t *testing.T) {
	at := func(s string) *byte { return unsafe.StringData(s) }
	o := api.Object{Name: "a"}
	first, _ := list.Object(o)
	second, _ := list.Object(o)
	third, _ := list.Objects([]api.Object{o})
	fourth, _ := list.Objects([]api.Object{o})
	met := map[*byte]int{at(o.Name): -1}
	for k, s := range []string{first, second, third, fourth, list.Ins(0), list.Ins(0), list.Code([]uint32{0, 0})[0], list.Code([]uint32{0, 0})[1]} {
		if other, is := met[at(s)]; is {
			t.Errorf("R5: the answers %d and %d share memory", other, k)
		}
		met[at(s)] = k
	}
	// What is done to the object behind a call is not seen in its answer.
	changed := sample()
	s, _ := list.Object(changed)
	changed.Code[0], changed.Data[0], changed.Symbols[0].Name, changed.Relocs[0].Sym = 0, 5, "changed", 1
	if s != lines(sampleText) {
		t.Errorf("R5: the text is %q now", s)
	}
	if again, e := list.Object(sample()); e != api.OK || again != s {
		t.Errorf("R6: the same object once more: %q, %d", again, e)
	}
}
