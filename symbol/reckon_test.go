package symbol_test

import (
	"fmt"
	"math/rand"
	"slices"
	"testing"

	"pleat/api"
	"pleat/object"
	"pleat/symbol"
)

// verdict is what Resolve tells beside the answer.
type verdict struct {
	e    api.Errno
	i, k int
}

// standsFor tells what a name stands for, by looking for all that could be it; number -1, if it stands for nothing.
func standsFor(l []api.Object, name string) symbol.Def {
	for _, kind := range []int8{api.Global, api.Weak} {
		for number, o := range l {
			for _, s := range o.Symbols {
				if s.Name == name && s.Kind == kind {
					return symbol.Def{Object: number, At: s.At}
				}
			}
		}
	}
	return symbol.Def{Object: -1}
}

// globalAhead tells whether a Global symbol of that name stands ahead of the symbol k of the object i.
func globalAhead(l []api.Object, i, k int, name string) bool {
	is := func(s api.Symbol) bool { return s.Name == name && s.Kind == api.Global }
	return slices.ContainsFunc(l[:i], func(o api.Object) bool { return slices.ContainsFunc(o.Symbols, is) }) || slices.ContainsFunc(l[i].Symbols[:k], is)
}

// allFaults tells everything that the chapter finds wrong with a list, in its order.
func allFaults(l []api.Object) (all []verdict) {
	add := func(is bool, e api.Errno, i, k int) {
		if is {
			all = append(all, verdict{e, i, k})
		}
	}
	each := func(do func(i, k int, s api.Symbol)) {
		for i, o := range l {
			for k, s := range o.Symbols {
				do(i, k, s)
			}
		}
	}
	add(len(l) > 32, api.ErrMany, 32, 0)
	for i, o := range l {
		e, number := object.Check(o)
		add(e != api.OK, e, i, number)
		add(slices.ContainsFunc(l[:i], func(other api.Object) bool { return other.Name == o.Name }), api.ErrTwice, i, -1)
	}
	each(func(i, k int, s api.Symbol) {
		add(s.Kind == api.Global && globalAhead(l, i, k, s.Name), api.ErrTwice, i, k)
	})
	each(func(i, k int, s api.Symbol) {
		add(s.Kind == api.Wanted && standsFor(l, s.Name).Object < 0, api.ErrUndefined, i, k)
	})
	return all
}

// reckoned tells what each symbol of a list that resolves stands for.
func reckoned(l []api.Object) [][]symbol.Def {
	d := [][]symbol.Def{}
	for i, o := range l {
		row := []symbol.Def{}
		for _, s := range o.Symbols {
			if s.Kind == api.Local {
				row = append(row, symbol.Def{Object: i, At: s.At})
			} else {
				row = append(row, standsFor(l, s.Name))
			}
		}
		d = append(d, row)
	}
	return d
}

func oneOf[T any](r *rand.Rand, from ...T) T { return from[r.Intn(len(from))] }

// tossedSymbols tells a few symbols, mostly of unlike names.
func tossedSymbols(r *rand.Rand, words int, kinds []int8) (l []api.Symbol) {
	for _, k := range r.Perm(5)[:r.Intn(4)] {
		s := api.Symbol{Name: string(rune('f' + k)), Kind: oneOf(r, kinds...), At: r.Intn(words + 1)}
		if s.Kind == api.Wanted {
			s.At = 0
		}
		l = append(l, s)
	}
	return l
}

// tossed tells a small list of objects that often resolves; bent ones have a fault more.
func tossed(r *rand.Rand, bent bool) (l []api.Object) {
	kinds := oneOf(r, []int8{0, 1, 2, 3}, []int8{2, 2, 3}, []int8{0, 2, 2, 2, 2, 3, 3}, []int8{1, 0, 0, 2, 2, 2, 3})
	for number := range r.Intn(5) {
		words := r.Intn(4)
		o := api.Object{Name: fmt.Sprintf("o%d", number), Code: make([]uint32, words), Symbols: tossedSymbols(r, words, kinds)}
		if bent {
			bend(r, &o)
		}
		l = append(l, o)
	}
	return l
}

func bend(r *rand.Rand, o *api.Object) {
	switch r.Intn(12) {
	case 0:
		o.Name = "o" + oneOf(r, "0", "1", "2")
	case 1:
		o.Name = oneOf(r, "", "9")
	case 2:
		o.DataAt = -1
	case 3:
		o.Symbols = append(o.Symbols, api.Symbol{Name: oneOf(r, "f", "9", "z"), Kind: int8(r.Intn(7) - 1), At: r.Intn(5) - 1})
	case 4:
		o.Code = append(o.Code, 17*134217728+uint32(r.Intn(8)))
	case 5:
		o.Relocs = append(o.Relocs, api.Reloc{At: r.Intn(3), Sym: r.Intn(3)})
	}
}

func TestTossedLists(t *testing.T) {
	r := rand.New(rand.NewSource(8))
	told := map[verdict]int{}
	for number := range 80000 {
		l := tossed(r, number%2 == 0)
		if number%2000 == 0 {
			l = append(row(33), l...)
		}
		want, d := verdict{}, [][]symbol.Def(nil)
		if all := allFaults(l); len(all) > 0 {
			want = all[0]
		} else {
			d = reckoned(l)
		}
		told[want]++
		gotD, e, i, k := symbol.Resolve(l)
		if (verdict{e, i, k}) != want || !sameRows(gotD, d) {
			t.Fatalf("P8.1: %+v: %v, %d, %d, %d; not %v, %v", l, gotD, e, i, k, d, want)
		}
		for _, name := range []string{"f", "g", "h", "i", "j", "9", "z", ""} {
			wantDef, wantOK := standsFor(l, name), true
			if wantDef.Object < 0 {
				wantDef, wantOK = symbol.Def{}, false
			}
			if def, ok := symbol.Find(l, name); def != wantDef || ok != wantOK {
				t.Fatalf("P8.2: %+v, %q: %v, %v; not %v, %v", l, name, def, ok, wantDef, wantOK)
			}
		}
	}
	for _, must := range []verdict{{}, {api.ErrMany, 32, 0}, {api.ErrTwice, 1, -1}, {api.ErrTwice, 2, -1}, {api.ErrName, 0, -1}, {api.ErrData, 2, -1}, {api.ErrTwice, 1, 2}, {api.ErrTwice, 2, 0}, {api.ErrKind, 1, 1}, {api.ErrPlace, 0, 0}, {api.ErrReloc, 1, 0}, {api.ErrUndefined, 0, 0}, {api.ErrUndefined, 2, 1}, {api.ErrUndefined, 3, 0}} {
		if told[must] < 10 {
			t.Errorf("the tossed lists have %v only %d times: the test is weak", must, told[must])
		}
	}
}

// resolved hands each tossed list that resolves, with its answer, to do.
func resolved(seed int64, lists int, do func(l []api.Object, d [][]symbol.Def)) {
	r := rand.New(rand.NewSource(seed))
	for range lists {
		l := tossed(r, false)
		if d, e, _, _ := symbol.Resolve(l); e == api.OK {
			do(l, d)
		}
	}
}

func TestDefsArePlaces(t *testing.T) {
	met := 0
	resolved(1, 40000, func(l []api.Object, d [][]symbol.Def) {
		for i, list := range d {
			for k, def := range list {
				met++
				if def.Object < 0 || def.Object >= len(l) || def.At < 0 || def.At > len(l[def.Object].Code) {
					t.Fatalf("What follows: %+v: the symbol %d of %d stands for %v, which is no place", l, k, i, def)
				}
			}
		}
	})
	if met < 10000 {
		t.Errorf("only %d symbols were met: the test is weak", met)
	}
}

// orders hands each order of n numbers to do.
func orders(n int, do func(order []int)) {
	order := make([]int, 0, n)
	var next func()
	next = func() {
		if len(order) == n {
			do(order)
		}
		for k := range n {
			if !slices.Contains(order, k) {
				order = append(order, k)
				next()
				order = order[:len(order)-1]
			}
		}
	}
	next()
}

// manyWeak tells whether a name has several Weak symbols, and no Global one.
func manyWeak(l []api.Object, name string) bool {
	count := map[int8]int{}
	for _, o := range l {
		for _, s := range o.Symbols {
			if s.Name == name {
				count[s.Kind]++
			}
		}
	}
	return count[api.Global] == 0 && count[api.Weak] > 1
}

func TestAnotherOrder(t *testing.T) {
	met, others := 0, 0
	resolved(2, 8000, func(l []api.Object, d [][]symbol.Def) {
		orders(len(l), func(order []int) {
			turned := []api.Object{}
			for _, number := range order {
				turned = append(turned, l[number])
			}
			got, e, i, k := symbol.Resolve(turned)
			if e != api.OK {
				t.Fatalf("What follows: %+v resolves, but in the order %v it is %d, %d, %d", l, order, e, i, k)
			}
			for i, list := range got {
				for k, def := range list {
					s, back := turned[i].Symbols[k], symbol.Def{Object: order[def.Object], At: def.At}
					met++
					if back == d[order[i]][k] {
						continue
					}
					others++
					first := standsFor(turned, s.Name)
					if s.Kind == api.Local || !manyWeak(l, s.Name) || def != first {
						t.Fatalf("What follows: %+v in the order %v: %s of %s stands for %v, was %v", l, order, s.Name, turned[i].Name, back, d[order[i]][k])
					}
				}
			}
		})
	})
	if met < 10000 || others < 1000 {
		t.Errorf("only %d symbols were met, %d of which stand for another place: the test is weak", met, others)
	}
}

func TestOneMoreWanted(t *testing.T) {
	met := 0
	resolved(3, 8000, func(l []api.Object, d [][]symbol.Def) {
		for _, name := range []string{"f", "g", "h", "i", "j"} {
			want := standsFor(l, name)
			for number, o := range l {
				if want.Object < 0 || object.Of(o, name) >= 0 {
					continue
				}
				for at := range len(o.Symbols) + 1 {
					more := slices.Clone(l)
					more[number].Symbols = slices.Insert(slices.Clone(o.Symbols), at, wanted(name))
					wantD := slices.Clone(d)
					wantD[number] = slices.Insert(slices.Clone(d[number]), at, want)
					met++
					if got, e, i, k := symbol.Resolve(more); e != api.OK || i != 0 || k != 0 || !sameRows(got, wantD) {
						t.Fatalf("What follows: %+v: with %s Wanted in %d: %v, %d, %d, %d; not %v", l, name, number, got, e, i, k, wantD)
					}
				}
			}
		}
	})
	if met < 10000 {
		t.Errorf("only %d Wanted symbols were added: the test is weak", met)
	}
}
