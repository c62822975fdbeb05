package symbol_test

import (
	"fmt"
	"math"
	"reflect"
	"slices"
	"strings"
	"testing"

	"pleat/api"
	"pleat/symbol"
)

// of makes an object of six words of code, with these symbols.
func of(name string, symbols ...api.Symbol) api.Object {
	return api.Object{Name: name, Code: make([]uint32, 6), Symbols: symbols}
}

func local(name string, at int) api.Symbol  { return api.Symbol{Name: name, Kind: api.Local, At: at} }
func global(name string, at int) api.Symbol { return api.Symbol{Name: name, Kind: api.Global, At: at} }
func weak(name string, at int) api.Symbol   { return api.Symbol{Name: name, Kind: api.Weak, At: at} }
func wanted(name string) api.Symbol         { return api.Symbol{Name: name, Kind: api.Wanted} }

func objects(l ...api.Object) []api.Object { return l }

// defs makes a row of what symbols stand for, of pairs of an object's number and a place.
func defs(pairs ...int) []symbol.Def {
	row := []symbol.Def{}
	for k := 0; k < len(pairs); k += 2 {
		row = append(row, symbol.Def{Object: pairs[k], At: pairs[k+1]})
	}
	return row
}

func sameRows(a, b [][]symbol.Def) bool {
	return slices.EqualFunc(a, b, func(a, b []symbol.Def) bool { return slices.Equal(a, b) })
}

func resolves(t *testing.T, what string, l []api.Object, want ...[]symbol.Def) {
	t.Helper()
	if d, e, i, k := symbol.Resolve(l); e != api.OK || i != 0 || k != 0 || !sameRows(d, want) {
		t.Errorf("P8.1: %s: %v, %d, %d, %d; not %v, 0, 0, 0", what, d, e, i, k, want)
	}
}

func refuses(t *testing.T, what string, l []api.Object, e api.Errno, i, k int) {
	t.Helper()
	d, gotE, gotI, gotK := symbol.Resolve(l)
	if gotE != e || gotI != i || gotK != k {
		t.Errorf("P8.1: %s: %d, %d, %d; not %d, %d, %d", what, gotE, gotI, gotK, e, i, k)
	}
	if len(d) != 0 {
		t.Errorf("R2: %s: beside the error %d stands %v", what, gotE, d)
	}
}

func finds(t *testing.T, what string, l []api.Object, name string, i, at int) {
	t.Helper()
	if d, ok := symbol.Find(l, name); !ok || d != (symbol.Def{Object: i, At: at}) {
		t.Errorf("P8.2: %s: %q: %v, %v; not {%d %d}, true", what, name, d, ok, i, at)
	}
}

func findsNone(t *testing.T, what string, l []api.Object, name string) {
	t.Helper()
	if d, ok := symbol.Find(l, name); ok || d != (symbol.Def{}) {
		t.Errorf("P8.2: %s: %q: %v, %v; not {0 0}, false", what, name, d, ok)
	}
}

func TestResolveExamples(t *testing.T) {
	resolves(t, "a wants f, b has it", objects(of("a", wanted("f")), of("b", global("f", 2))), defs(1, 2), defs(1, 2))
	resolves(t, "f Weak in both, g Local", objects(of("a", weak("f", 1), local("g", 0)), of("b", weak("f", 3))), defs(0, 1, 0, 0), defs(0, 1))
	resolves(t, "f Weak, and Global", objects(of("a", weak("f", 1)), of("b", global("f", 3))), defs(1, 3), defs(1, 3))
	refuses(t, "f Global in both", objects(of("a", global("f", 0)), of("b", global("f", 1))), api.ErrTwice, 1, 0)
	refuses(t, "f Wanted, and Local elsewhere", objects(of("a", wanted("f")), of("b", local("f", 0))), api.ErrUndefined, 0, 0)
	refuses(t, "a and a", objects(of("a"), of("a")), api.ErrTwice, 1, -1)
}

// row makes so many objects that may be, no two of one name.
func row(n int) []api.Object {
	l := make([]api.Object, n)
	for k := range l {
		l[k] = of(fmt.Sprintf("o%d", k), global(fmt.Sprintf("g%d", k), k%7), wanted(fmt.Sprintf("g%d", (k+1)%n)))
	}
	return l
}

func TestResolveCounts(t *testing.T) {
	resolves(t, "no objects", nil)
	resolves(t, "no objects", []api.Object{})
	for _, n := range []int{2, 31, 32} {
		want := [][]symbol.Def{}
		for k := range n {
			want = append(want, defs(k, k%7, (k+1)%n, (k+1)%n%7))
		}
		resolves(t, "a row of objects", row(n), want...)
	}
	for _, n := range []int{33, 34, 64, 1000} {
		refuses(t, "too many objects", row(n), api.ErrMany, 32, 0)
	}
}

func TestTooManyAheadOfAll(t *testing.T) {
	for what, turn := range map[string]func(l []api.Object){
		"no object": func(l []api.Object) { l[0].Name = "9" },
		"one name":  func(l []api.Object) { l[1].Name = l[0].Name },
		"Global":    func(l []api.Object) { l[1].Symbols[0].Name = l[0].Symbols[0].Name },
		"undefined": func(l []api.Object) { l[0].Symbols[1].Name = "nowhere" },
	} {
		l := row(33)
		turn(l)
		refuses(t, "33 and "+what, l, api.ErrMany, 32, 0)
	}
	refuses(t, "33 of nothing", make([]api.Object, 33), api.ErrMany, 32, 0)
	l := row(32)
	l[31].Symbols[1].Name = "nowhere"
	refuses(t, "the last one of 32", l, api.ErrUndefined, 31, 1)
}

// refusedObject is an object that may not be, and what object.Check tells of it.
type refusedObject struct {
	o      api.Object
	e      api.Errno
	number int
}

// refusedObjects tells an object for each error of object.Check, and each sort of number.
func refusedObjects() []refusedObject {
	const jumpTo = 15 * 134217728
	many := of("x")
	for k := range 257 {
		many.Symbols = append(many.Symbols, local(fmt.Sprintf("s%d", k), 0))
	}
	return []refusedObject{
		{of("9x"), api.ErrName, -1},
		{of(""), api.ErrName, -1},
		{of(strings.Repeat("x", 25)), api.ErrName, -1},
		{api.Object{Name: "x", Code: make([]uint32, 16385)}, api.ErrMany, -1},
		{many, api.ErrMany, -2},
		{api.Object{Name: "x", Relocs: make([]api.Reloc, 1)}, api.ErrMany, -3},
		{api.Object{Name: "x", DataAt: 4097}, api.ErrData, -1},
		{of("x", local("f", 0), local("7", 0)), api.ErrName, 1},
		{of("x", local("f", 0), local("g", 0), local("f", 0)), api.ErrTwice, 2},
		{of("x", global("f", 0), global("f", 0)), api.ErrTwice, 1},
		{of("x", weak("f", 0), global("f", 0)), api.ErrTwice, 1},
		{of("x", global("f", 0), weak("f", 0)), api.ErrTwice, 1},
		{of("x", api.Symbol{Name: "f", Kind: 4}), api.ErrKind, 0},
		{of("x", api.Symbol{Name: "f", Kind: -1}), api.ErrKind, 0},
		{of("x", api.Symbol{Name: "f", Kind: math.MaxInt8}), api.ErrKind, 0},
		{of("x", local("f", 0), global("g", 7)), api.ErrPlace, 1},
		{of("x", api.Symbol{Name: "f", Kind: api.Wanted, At: 1}), api.ErrPlace, 0},
		{api.Object{Name: "x", Code: []uint32{jumpTo}, Relocs: []api.Reloc{{At: 0, Sym: 0}}}, api.ErrReloc, 0},
		{api.Object{Name: "x", Code: []uint32{0, jumpTo + 3}}, api.ErrPlace, -2},
	}
}

func TestRefusedObjects(t *testing.T) {
	for k, r := range refusedObjects() {
		for number := range 4 {
			l := row(4)
			l[number] = r.o
			what := fmt.Sprintf("the refused object %d at %d", k, number)
			refuses(t, what, l, r.e, number, r.number)
			l[(number+1)%4].Symbols[0] = global("g3", 0)
			l[(number+2)%4].Symbols[0] = global("g3", 0)
			refuses(t, what+", beside two Global ones", l, r.e, number, r.number)
		}
	}
}

func TestFirstRefusedObject(t *testing.T) {
	all := refusedObjects()
	for i, first := range all {
		for _, second := range all {
			l := row(4)
			l[1], l[3] = first.o, second.o
			refuses(t, fmt.Sprintf("the refused object %d and another", i), l, first.e, 1, first.number)
		}
	}
}

func TestOneNameTwice(t *testing.T) {
	for ahead := range 5 {
		for behind := ahead + 1; behind < 5; behind++ {
			l := row(5)
			l[behind].Name = l[ahead].Name
			refuses(t, "one name", l, api.ErrTwice, behind, -1)
			l[0].Symbols[1].Name = "nowhere"
			refuses(t, "one name, and undefined", l, api.ErrTwice, behind, -1)
			l[1].Symbols[0].Name = l[0].Symbols[0].Name
			refuses(t, "one name, and Global", l, api.ErrTwice, behind, -1)
		}
	}
	refuses(t, "three of one name", objects(of("b"), of("a"), of("a"), of("a")), api.ErrTwice, 2, -1)
	refuses(t, "two names, each twice", objects(of("a"), of("b"), of("b"), of("a")), api.ErrTwice, 2, -1)
	resolves(t, "names that are not the same", objects(of("a"), of("A"), of("a."), of("aa")), defs(), defs(), defs(), defs())
	resolves(t, "an object of a symbol's name", objects(of("f", global("a", 1)), of("a", global("f", 2))), defs(0, 1), defs(1, 2))
}

func TestOneNameAndRefused(t *testing.T) {
	for k, r := range refusedObjects() {
		what := fmt.Sprintf("the refused object %d ", k)
		refuses(t, what+"behind two of one name", objects(of("a"), of("a"), r.o), api.ErrTwice, 1, -1)
		refuses(t, what+"ahead of two of one name", objects(r.o, of("a"), of("a")), r.e, 0, r.number)
		refuses(t, what+"between two of one name", objects(of("a"), r.o, of("a")), r.e, 1, r.number)
		if r.o.Name == "x" {
			refuses(t, what+"has a name that was there", objects(of("x"), r.o), r.e, 1, r.number)
			refuses(t, what+"ahead of one with its name", objects(r.o, of("x")), r.e, 0, r.number)
		}
	}
	refuses(t, "no name twice", objects(of(""), of("")), api.ErrName, 0, -1)
}

func TestTwoGlobal(t *testing.T) {
	refuses(t, "the same at one place", objects(of("a", global("f", 0)), of("b", global("f", 0))), api.ErrTwice, 1, 0)
	refuses(t, "two objects apart", objects(of("a", global("f", 0)), of("b"), of("c", global("g", 0), global("f", 0))), api.ErrTwice, 2, 1)
	refuses(t, "three Global ones", objects(of("a", global("f", 0)), of("b", global("f", 0)), of("c", global("f", 0))), api.ErrTwice, 1, 0)
	refuses(t, "two names in one object", objects(of("a", global("f", 0), global("g", 0)), of("b", global("x", 0), global("g", 0), global("f", 0))), api.ErrTwice, 1, 1)
	refuses(t, "two names in two objects", objects(of("a", global("f", 0)), of("b", global("g", 0)), of("c", global("x", 0), global("g", 0)), of("d", global("f", 0))), api.ErrTwice, 2, 1)
	for what, s := range map[string]api.Symbol{"Local": local("f", 1), "Weak": weak("f", 1), "Wanted": wanted("f")} {
		refuses(t, "two Global ones behind "+what, objects(of("a", s), of("b", global("f", 0)), of("c", global("f", 0))), api.ErrTwice, 2, 0)
		refuses(t, "two Global ones around "+what, objects(of("a", global("f", 0)), of("b", s), of("c", global("f", 0))), api.ErrTwice, 2, 0)
		refuses(t, "two Global ones ahead of "+what, objects(of("a", global("f", 0)), of("b", global("f", 0)), of("c", s)), api.ErrTwice, 1, 0)
	}
	resolves(t, "names that are not the same", objects(of("a", global("f", 0)), of("b", global("F", 1)), of("c", global("f.", 2))), defs(0, 0), defs(1, 1), defs(2, 2))
}

func TestUndefined(t *testing.T) {
	refuses(t, "nowhere", objects(of("a", wanted("f"))), api.ErrUndefined, 0, 0)
	refuses(t, "Wanted alone", objects(of("a", local("g", 1)), of("b", local("f", 2), wanted("g")), of("c", wanted("g"))), api.ErrUndefined, 1, 1)
	refuses(t, "Local alone, ahead", objects(of("a", local("f", 0)), of("b", local("f", 1)), of("c", global("g", 0), wanted("f"))), api.ErrUndefined, 2, 1)
	refuses(t, "an object's name", objects(of("a", wanted("b")), of("b")), api.ErrUndefined, 0, 0)
	refuses(t, "another name", objects(of("a", wanted("f")), of("b", global("F", 0), weak("ff", 0))), api.ErrUndefined, 0, 0)
	refuses(t, "the first of several", objects(of("a", wanted("x"), global("f", 0)), of("b", global("x", 0), wanted("f"), wanted("y"), wanted("z")), of("c", wanted("w"))), api.ErrUndefined, 1, 2)
	refuses(t, "the first object of several", objects(of("a", global("f", 0), global("g", 0), wanted("w")), of("b", wanted("v"))), api.ErrUndefined, 0, 2)
	refuses(t, "ahead of two Global ones", objects(of("a", wanted("x")), of("b", global("f", 0)), of("c", global("f", 0))), api.ErrTwice, 2, 0)
	refuses(t, "ahead of two objects of one name", objects(of("a", wanted("x")), of("b"), of("b")), api.ErrTwice, 2, -1)
	refuses(t, "beside a Wanted one that is found", objects(of("a", wanted("x"), wanted("y")), of("b", weak("x", 1))), api.ErrUndefined, 0, 1)
}

func TestWeak(t *testing.T) {
	resolves(t, "one alone", objects(of("a", weak("f", 6))), defs(0, 6))
	resolves(t, "the first by objects", objects(of("a", local("f", 0)), of("b", wanted("f")), of("c", local("x", 0), weak("f", 3)), of("d", weak("f", 1))), defs(0, 0), defs(2, 3), defs(2, 0, 2, 3), defs(2, 3))
	resolves(t, "each of two names", objects(of("a", weak("g", 1), weak("f", 2)), of("b", weak("f", 3), weak("g", 4))), defs(0, 1, 0, 2), defs(0, 2, 0, 1))
	resolves(t, "three", objects(of("a", wanted("f")), of("b", weak("f", 5)), of("c", weak("f", 4)), of("d", weak("f", 3))), defs(1, 5), defs(1, 5), defs(1, 5), defs(1, 5))
	resolves(t, "a Global one ahead", objects(of("a", global("f", 2)), of("b", weak("f", 5)), of("c", weak("f", 4))), defs(0, 2), defs(0, 2), defs(0, 2))
	resolves(t, "a Global one between", objects(of("a", weak("f", 5)), of("b", global("f", 2)), of("c", weak("f", 4))), defs(1, 2), defs(1, 2), defs(1, 2))
	resolves(t, "a Global one behind", objects(of("a", weak("f", 5)), of("b", weak("f", 4)), of("c", global("f", 2))), defs(2, 2), defs(2, 2), defs(2, 2))
	resolves(t, "a Global one of another name", objects(of("a", weak("f", 5), global("g", 1)), of("b", weak("f", 4), weak("g", 3))), defs(0, 5, 0, 1), defs(0, 5, 0, 1))
	resolves(t, "a Global one of the same object, of another name ahead", objects(of("a", global("g", 1), weak("f", 5)), of("b", wanted("f"), wanted("g"))), defs(0, 1, 0, 5), defs(0, 5, 0, 1))
}

func TestLocal(t *testing.T) {
	resolves(t, "a Global one of another object behind", objects(of("a", local("f", 1)), of("b", global("f", 2)), of("c", wanted("f"))), defs(0, 1), defs(1, 2), defs(1, 2))
	resolves(t, "a Global one of another object ahead", objects(of("a", global("f", 2)), of("b", local("f", 1)), of("c", wanted("f"))), defs(0, 2), defs(1, 1), defs(0, 2))
	resolves(t, "a Weak one of another object", objects(of("a", local("f", 4)), of("b", weak("f", 2)), of("c", local("f", 6))), defs(0, 4), defs(1, 2), defs(2, 6))
	resolves(t, "at one place", objects(of("a", local("f", 6), local("g", 6)), of("b", local("f", 6))), defs(0, 6, 0, 6), defs(1, 6))
}

func TestWithoutSymbols(t *testing.T) {
	resolves(t, "one object", objects(of("a")), defs())
	resolves(t, "no code either", objects(api.Object{Name: "a"}), defs())
	resolves(t, "some of several", objects(of("a"), of("b", wanted("f")), of("c"), of("d", global("f", 1)), of("e")), defs(), defs(3, 1), defs(), defs(3, 1), defs())
	empty := api.Object{Name: "a", Code: []uint32{}, Data: []int64{}, Symbols: []api.Symbol{}, Relocs: []api.Reloc{}}
	resolves(t, "empty lists (R4)", objects(empty), defs())
	resolves(t, "a symbol of no code", objects(api.Object{Name: "a", Symbols: []api.Symbol{global("f", 0)}}), defs(0, 0))
}

func TestManySymbols(t *testing.T) {
	l := make([]api.Object, 32)
	want := make([][]symbol.Def, 32)
	for i := range l {
		l[i] = api.Object{Name: fmt.Sprintf("o%d", i), Code: make([]uint32, 16384)}
		for k := range 256 {
			// Each name is Global in the object that its number names, Wanted or Weak in the others.
			name, at, owner := fmt.Sprintf("s%d", k), k*64+i, k%32
			s := api.Symbol{Name: name, Kind: []int8{api.Wanted, api.Weak}[(i+k)%2]}
			if s.Kind == api.Weak {
				s.At = at
			}
			if i == owner {
				s = global(name, at)
			}
			l[i].Symbols = append(l[i].Symbols, s)
			want[i] = append(want[i], symbol.Def{Object: owner, At: k*64 + owner})
		}
	}
	resolves(t, "as many symbols as can be", l, want...)
	for k := range 256 {
		finds(t, "as many symbols as can be", l, fmt.Sprintf("s%d", k), k%32, k*64+k%32)
	}
	l[31].Symbols[255] = wanted("nowhere")
	refuses(t, "the last symbol of all", l, api.ErrUndefined, 31, 255)
}

func TestFind(t *testing.T) {
	l := objects(of("a", weak("f", 1), wanted("g"), local("h", 4)), of("b", global("f", 3), local("h", 0), weak("w", 6)), of("c", weak("w", 2), weak("f", 5), global("e", 0)))
	finds(t, "a Global one", l, "f", 1, 3)
	finds(t, "the first Weak one", l, "w", 1, 6)
	finds(t, "at place 0", l, "e", 2, 0)
	finds(t, "of object 0, at place 0", objects(of("a", weak("f", 0))), "f", 0, 0)
	for _, name := range []string{"g", "h", "a", "b", "F", "ff", "", "nowhere", "f ", strings.Repeat("f", 1000)} {
		findsNone(t, "a list that does not resolve", l, name)
	}
	for _, name := range []string{"f", "", "a"} {
		findsNone(t, "no objects", nil, name)
		findsNone(t, "no objects", []api.Object{}, name)
		findsNone(t, "no symbols", objects(of("a"), of("f"), of("")), name)
	}
}

func TestFindInWhatDoesNotResolve(t *testing.T) {
	finds(t, "two Global ones", objects(of("a"), of("b", global("f", 4)), of("c", global("f", 1))), "f", 1, 4)
	finds(t, "two Global ones behind a Weak one", objects(of("a", weak("f", 2)), of("b", global("f", 4)), of("c", global("f", 1))), "f", 1, 4)
	finds(t, "two Global ones in one object", objects(of("a", global("f", 4), global("f", 1))), "f", 0, 4)
	finds(t, "Weak, Global and Weak in one object", objects(of("a", weak("f", 1), global("f", 2), weak("f", 3))), "f", 0, 2)
	finds(t, "two Weak ones in one object", objects(of("a", local("f", 1), wanted("f"), weak("f", 5), weak("f", 2))), "f", 0, 5)
	finds(t, "two objects of one name", objects(of("a", wanted("f")), of("a", weak("f", 3))), "f", 1, 3)
	finds(t, "something else is undefined", objects(of("a", wanted("x"), global("f", 3))), "f", 0, 3)
	finds(t, "a name that is none", objects(of("", global("9 9", 3)), of("9", global("", 2))), "9 9", 0, 3)
	finds(t, "an empty name", objects(of("", global("9 9", 3)), of("9", global("", 2))), "", 1, 2)
	finds(t, "a place that is none", objects(of("a", global("f", math.MaxInt), weak("g", -5))), "f", 0, math.MaxInt)
	finds(t, "a place that is none", objects(of("a", global("f", math.MaxInt), weak("g", -5))), "g", 0, -5)
	for _, kind := range []int8{math.MinInt8, -1, 4, 5, math.MaxInt8} {
		findsNone(t, "a kind that is none", objects(of("a", api.Symbol{Name: "f", Kind: kind, At: 3})), "f")
		finds(t, "behind a kind that is none", objects(of("a", api.Symbol{Name: "f", Kind: kind, At: 3}), of("b", weak("f", 1))), "f", 1, 1)
	}
	many := row(1000)
	finds(t, "too many objects", many, "g999", 999, 999%7)
	many[0].Symbols[0] = weak("g999", 2)
	finds(t, "a Weak one and, much further, a Global one", many, "g999", 999, 999%7)
}

// withRoom copies a list, with two more elements behind its end.
func withRoom[T any](list []T, more T) []T {
	return append(append(make([]T, 0, len(list)+2), list...), more, more)[:len(list)]
}

// roomy copies a list of objects, each list of it with room behind its end.
func roomy(l []api.Object) []api.Object {
	l = withRoom(l, of("room", global("f", 1), global("roomy", 1)))
	for k, o := range l[:cap(l)] {
		o.Code, o.Data = withRoom(o.Code, 77), withRoom(o.Data, 88)
		o.Symbols, o.Relocs = withRoom(o.Symbols, global("roomy", 2)), withRoom(o.Relocs, api.Reloc{At: 99})
		l[:cap(l)][k] = o
	}
	return l
}

// whole tells a list of objects with all that lies behind the ends of its lists.
func whole(l []api.Object) []api.Object {
	l = slices.Clone(l[:cap(l)])
	for k, o := range l {
		o.Code, o.Data, o.Symbols, o.Relocs = o.Code[:cap(o.Code)], o.Data[:cap(o.Data)], o.Symbols[:cap(o.Symbols)], o.Relocs[:cap(o.Relocs)]
		l[k] = o
	}
	return l
}

func TestListsStay(t *testing.T) {
	lists := [][]api.Object{nil, row(1), row(4), row(32), row(33), objects(of("a"), of("a")), objects(of("a", wanted("f"))), objects(of("a", global("f", 1)), of("b", global("f", 1)))}
	for _, r := range refusedObjects() {
		lists = append(lists, objects(of("a", weak("f", 1)), r.o))
	}
	for k, l := range lists {
		given, kept := roomy(l), roomy(l)
		symbol.Resolve(given)
		symbol.Find(given, "roomy")
		symbol.Find(given, "f")
		symbol.Find(given, "g3")
		if !reflect.DeepEqual(whole(given), whole(kept)) {
			t.Errorf("R5: the list %d was changed", k)
		}
		findsNone(t, "what lies behind the ends", given, "roomy")
	}
}

func TestAnswersAreApart(t *testing.T) {
	l := append(row(5), of("bare"), of("bare2"))
	d, _, _, _ := symbol.Resolve(l)
	other, _, _, _ := symbol.Resolve(l)
	// Each list is filled up to the end of its room: no other one may be seen to change.
	for k, list := range d {
		list = list[:cap(list)]
		for i := range list {
			list[i] = symbol.Def{Object: -1, At: -1 - k}
		}
	}
	for k, list := range d {
		for _, def := range list {
			if def.At != -1-k {
				t.Errorf("R5: the list %d shares memory with another one of its answer", k)
			}
		}
	}
	want := [][]symbol.Def{defs(0, 0, 1, 1), defs(1, 1, 2, 2), defs(2, 2, 3, 3), defs(3, 3, 4, 4), defs(4, 4, 0, 0), defs(), defs()}
	if !sameRows(other, want) {
		t.Errorf("R5: two answers share memory: %v, not %v", other, want)
	}
	for k := range d[:cap(d)] {
		d[:cap(d)][k] = nil
	}
	if !sameRows(other, want) {
		t.Errorf("R5: two answers share their lists: %v, not %v", other, want)
	}
	resolves(t, "once more", l, want...)
}

func TestCallsKnowNothingOfEachOther(t *testing.T) {
	first, second := objects(of("a", global("f", 3)), of("b", wanted("f"))), objects(of("a", wanted("f")))
	for range 3 {
		resolves(t, "f is there (R6)", first, defs(0, 3), defs(0, 3))
		refuses(t, "f is nowhere (R6)", second, api.ErrUndefined, 0, 0)
		finds(t, "f is there (R6)", first, "f", 0, 3)
		findsNone(t, "f is nowhere (R6)", second, "f")
	}
}
