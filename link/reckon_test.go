package link_test

import (
	"fmt"
	"math/rand"
	"reflect"
	"slices"
	"testing"

	"pleat/api"
	"pleat/image"
	"pleat/link"
	"pleat/object"
	"pleat/symbol"
)

// verdict is what Link tells beside the image.
type verdict struct {
	e     api.Errno
	i, at int
}

// targetOf tells where a word goes, by its bits alone: which of them have to be 0 stands beside each op that has a place.
func targetOf(w uint32) (int, bool) {
	const d, a, b, high = 15 << 23, 15 << 19, 15 << 15, 1 << 14
	rest, is := map[uint32]uint32{15: d | a | b | high, 16: d | b | high, 17: d | a | b | high, 20: a | b | high}[w>>27]
	if !is || w&rest != 0 {
		return 0, false
	}
	return int(w & 0x3fff), true
}

// standsFor tells what a symbol of the object i stands for, by looking for all that could be it; number -1, if it is nothing.
func standsFor(l []api.Object, i int, s api.Symbol) (number, at int) {
	if s.Kind == api.Local {
		return i, s.At
	}
	for _, kind := range []int8{api.Global, api.Weak} {
		for number, o := range l {
			for _, other := range o.Symbols {
				if other.Name == s.Name && other.Kind == kind {
					return number, other.At
				}
			}
		}
	}
	return -1, 0
}

// baseOf reckons the base of one object by itself.
func baseOf(l []api.Object, number int) int {
	base := number
	for _, o := range l[:number] {
		base += len(o.Code)
	}
	return base
}

// allFaults tells everything that P9.1 finds wrong, in its order.
func allFaults(l []api.Object, entry string, memory int) (all []verdict) {
	add := func(is bool, e api.Errno, i, at int) {
		if is {
			all = append(all, verdict{e, i, at})
		}
	}
	add(memory < 0 || memory > 4096, api.ErrArg, 0, 0)
	_, e, i, k := symbol.Resolve(l)
	add(e != api.OK, e, i, k)
	number, _ := standsFor(l, 0, wanted(entry))
	add(number < 0, api.ErrEntry, 0, 0)
	for i, o := range l {
		add(baseOf(l, i)+len(o.Code) >= 16384, api.ErrLarge, i, 0)
	}
	for i, o := range l {
		add(len(o.Data) > 0 && o.DataAt+len(o.Data) > memory, api.ErrData, i, 0)
		for at := o.DataAt; at < o.DataAt+len(o.Data); at++ {
			for _, ahead := range l[:i] {
				add(ahead.DataAt <= at && at < ahead.DataAt+len(ahead.Data), api.ErrOver, i, at)
			}
		}
	}
	return all
}

// reckoned tells the image of a list of which nothing is wrong, word by word.
func reckoned(l []api.Object, entry string, memory int) api.Image {
	x := api.Image{Memory: make([]int64, memory)}
	for i, o := range l {
		for p, w := range o.Code {
			if target, has := targetOf(w); has {
				goal := baseOf(l, i) + target
				for _, r := range o.Relocs {
					if r.At == p {
						number, at := standsFor(l, i, o.Symbols[r.Sym])
						goal = baseOf(l, number) + at
					}
				}
				w = w - uint32(target) + uint32(goal)
			}
			x.Text = append(x.Text, w)
		}
		x.Text = append(x.Text, 0)
		copy(x.Memory[min(o.DataAt, memory):], o.Data)
	}
	number, at := standsFor(l, 0, wanted(entry))
	x.Entry = baseOf(l, number) + at
	return x
}

func oneOf[T any](r *rand.Rand, from ...T) T { return from[r.Intn(len(from))] }

// tossedCode tells a few words; each target is a place of the object.
func tossedCode(r *rand.Rand) []uint32 {
	code := make([]uint32, r.Intn(6))
	for k := range code {
		n, reg := uint32(r.Intn(len(code)+1)), uint32(r.Intn(16))
		code[k] = oneOf(r, jump(n), zero(reg, n), call(n), place(reg, n), jump(0), call(0), zero(reg, 0), place(reg, 0), halt, goLink, set15, outWord, 0, 1, r.Uint32()|31<<27, jump(n)|0x4000, place(reg, n)|1<<15)
	}
	return code
}

// tossedObject tells an object that may be, with so many symbols of these kinds.
func tossedObject(r *rand.Rand, number, symbols int, kinds ...int8) api.Object {
	o := made(fmt.Sprintf("o%d", number), tossedCode(r)...)
	for _, k := range r.Perm(5)[:symbols] {
		s := api.Symbol{Name: []string{"main", "f", "g", "h", "i"}[k], Kind: oneOf(r, kinds...), At: r.Intn(len(o.Code) + 1)}
		if s.Kind == api.Wanted {
			s.At = 0
		}
		o.Symbols = append(o.Symbols, s)
	}
	for p, w := range o.Code {
		if target, has := targetOf(w); has && target == 0 && len(o.Symbols) > 0 && r.Intn(4) > 0 {
			o.Relocs = append(o.Relocs, api.Reloc{At: p, Sym: r.Intn(len(o.Symbols))})
		}
	}
	return o
}

// tossed tells a small list of objects that often links, an entry and a memory for it.
func tossed(r *rand.Rand) (l []api.Object, entry string, memory int) {
	kinds := oneOf(r, []int8{0, 1, 2, 3}, []int8{2, 2, 3}, []int8{0, 2, 2, 2, 3, 3}, []int8{1, 0, 0, 0, 2, 2, 2, 3, 3})
	// One object may have all names, so that most lists resolve.
	next, all := r.Intn(3), r.Intn(4)
	for number := range r.Intn(5) {
		o := tossedObject(r, number, r.Intn(5), kinds...)
		if number == all {
			o = tossedObject(r, number, 5, api.Weak)
		}
		// Mostly the data goes on from where that of the object ahead ended.
		o.DataAt = max(0, next+oneOf(r, 0, 0, 0, 0, 0, 0, 1, 1, -1))
		for range r.Intn(4) {
			o.Data = append(o.Data, r.Int63()-r.Int63())
		}
		next = o.DataAt + len(o.Data)
		l = append(l, o)
	}
	if r.Intn(8) == 0 {
		r.Shuffle(len(l), func(i, k int) { l[i].DataAt, l[k].DataAt = l[k].DataAt, l[i].DataAt })
	}
	return l, oneOf(r, "main", "main", "f", "g"), max(0, next+oneOf(r, 0, 0, 0, 1, 5, -1))
}

// bend makes something wrong with a list, at one of its objects.
func bend(r *rand.Rand, l []api.Object, memory int) ([]api.Object, int) {
	if len(l) == 0 {
		return l, memory
	}
	o := &l[r.Intn(len(l))]
	switch r.Intn(10) {
	case 0:
		o.Name = oneOf(r, "o0", "o1", "9", "")
	case 1:
		o.Code = append(o.Code, jump(uint32(r.Intn(9))))
	case 2:
		o.Symbols = append(o.Symbols, api.Symbol{Name: oneOf(r, "main", "f", "nowhere"), Kind: int8(r.Intn(5)), At: r.Intn(3)})
	case 3:
		o.Relocs = append(o.Relocs, api.Reloc{At: r.Intn(3), Sym: r.Intn(3)})
	case 4:
		o.Code, o.Relocs = long("", 16384-r.Intn(20)).Code, nil
	case 5:
		memory = oneOf(r, -1, 0, 1, 4096, 4097)
	case 6:
		o.DataAt = oneOf(r, -1, 0, 4095, 4096, 4097)
	}
	return l, memory
}

func TestTossedLists(t *testing.T) {
	r := rand.New(rand.NewSource(9))
	told := map[verdict]int{}
	for number := range 60000 {
		l, entry, memory := tossed(r)
		if number%3 == 0 {
			l, memory = bend(r, l, memory)
		}
		want, x := verdict{}, api.Image{}
		if all := allFaults(l, entry, memory); len(all) > 0 {
			want = all[0]
		} else {
			x = reckoned(l, entry, memory)
		}
		told[want]++
		got, e, i, at := link.Link(l, entry, memory)
		if (verdict{e, i, at}) != want || !sameImage(got, x) {
			t.Fatalf("P9.1: %+v, %q, %d: %x, %d, %d, %d; not %x, %v", l, entry, memory, got, e, i, at, x, want)
		}
		var bases []int
		wantE := api.OK
		for i, o := range l {
			bases = append(bases, baseOf(l, i))
			if bases[i]+len(o.Code) >= 16384 {
				wantE = api.ErrLarge
			}
		}
		if wantE != api.OK {
			bases = nil
		}
		if got, e := link.Bases(l); e != wantE || !slices.Equal(got, bases) {
			t.Fatalf("P9.2: %+v: %v, %d; not %v, %d", l, got, e, bases, wantE)
		}
	}
	for _, must := range []verdict{{}, {api.ErrArg, 0, 0}, {api.ErrTwice, 1, -1}, {api.ErrName, 2, -1}, {api.ErrReloc, 0, 0}, {api.ErrTwice, 1, 1}, {api.ErrUndefined, 0, 0}, {api.ErrUndefined, 2, 1}, {api.ErrEntry, 0, 0}, {api.ErrLarge, 0, 0}, {api.ErrLarge, 1, 0}, {api.ErrLarge, 2, 0}, {api.ErrData, 0, 0}, {api.ErrData, 1, 0}, {api.ErrData, 3, 0}, {api.ErrOver, 1, 1}, {api.ErrOver, 2, 3}, {api.ErrOver, 3, 5}} {
		if told[must] < 10 {
			t.Errorf("the tossed lists have %v only %d times: the test is weak", must, told[must])
		}
	}
	if told[verdict{}] < 10000 {
		t.Errorf("only %d tossed lists link: the test is weak", told[verdict{}])
	}
}

// linked hands each tossed list that links, with its image and bases, to do.
func linked(seed int64, lists int, do func(l []api.Object, x api.Image, bases []int)) {
	r := rand.New(rand.NewSource(seed))
	for range lists {
		l, entry, memory := tossed(r)
		x, e, _, _ := link.Link(l, entry, memory)
		bases, other := link.Bases(l)
		if e == api.OK && other == api.OK {
			do(l, x, bases)
		}
	}
}

func TestLinkedMayBeAnImage(t *testing.T) {
	met := 0
	linked(1, 40000, func(l []api.Object, x api.Image, _ []int) {
		met++
		if e, number := image.Check(x); e != api.OK || number != 0 {
			t.Fatalf("What follows: %+v: %x is no image: %d, %d", l, x, e, number)
		}
	})
	if met < 10000 {
		t.Errorf("only %d lists were linked: the test is weak", met)
	}
}

func TestWordsStandAtTheirBases(t *testing.T) {
	same, aimed, named := 0, 0, 0
	linked(2, 40000, func(l []api.Object, x api.Image, bases []int) {
		for i, o := range l {
			for p, w := range o.Code {
				got := x.Text[bases[i]+p]
				before, has := targetOf(w)
				after, hasStill := targetOf(got)
				if has != hasStill || w-uint32(before) != got-uint32(after) {
					t.Fatalf("What follows: %+v: at the place %d of %s stands %x, not %x", l, p, o.Name, got, w)
				}
				switch {
				case object.At(o, p) >= 0:
					named++
				case has && after != before+bases[i]:
					t.Fatalf("What follows: %+v: the target at %d of %s is %d, was %d, at the base %d", l, p, o.Name, after, before, bases[i])
				case has:
					aimed++
				default:
					same++
				}
			}
		}
	})
	if same < 10000 || aimed < 10000 || named < 10000 {
		t.Errorf("only %d, %d and %d words were met: the test is weak", same, aimed, named)
	}
}

func TestTrapsBehindEachObject(t *testing.T) {
	met := 0
	linked(3, 40000, func(l []api.Object, x api.Image, bases []int) {
		for i, o := range l {
			met++
			end := len(x.Text)
			if i+1 < len(l) {
				end = bases[i+1]
			}
			if trap := bases[i] + len(o.Code); trap+1 != end || x.Text[trap] != 0 {
				t.Fatalf("What follows: %+v: behind %s, which is laid from %d on, stands no Trap: %x", l, o.Name, bases[i], x.Text)
			}
		}
	})
	if met < 10000 {
		t.Errorf("only %d objects were met: the test is weak", met)
	}
}

// withRoom copies a list, with two more elements behind its end.
func withRoom[T any](list []T, more T) []T {
	return append(append(make([]T, 0, len(list)+2), list...), more, more)[:len(list)]
}

// roomy copies a list of objects, each list of it with room behind its end.
func roomy(l []api.Object) []api.Object {
	l = withRoom(l, withSymbols(made("room", jump(1)), global("roomy", 1)))
	for k, o := range l[:cap(l)] {
		o.Code, o.Data = withRoom(o.Code, jump(0)), withRoom(o.Data, 88)
		o.Symbols, o.Relocs = withRoom(o.Symbols, global("roomy", 0)), withRoom(o.Relocs, api.Reloc{At: 99})
		l[:cap(l)][k] = o
	}
	return l
}

// whole tells a list of objects with all that lies behind the ends of its lists.
func whole(l []api.Object) []api.Object {
	l = slices.Clone(l[:cap(l)])
	for k, o := range l {
		o.Code, o.Data, o.Symbols, o.Relocs = o.Code[:cap(o.Code)], o.Data[:cap(o.Data)], o.Symbols[:cap(o.Symbols)], o.Relocs[:cap(o.Relocs)]
		l[k] = o
	}
	return l
}

func TestListsStay(t *testing.T) {
	a, b := exampleA(), exampleB()
	lists := [][]api.Object{nil, objects(a, b), objects(b, a), objects(a), objects(mainOf(halt)), objects(a, b, withData(made("c"), 2, 1)), objects(withSymbols(long("l", 16384), global("main", 0)))}
	for _, u := range allUnresolved() {
		lists = append(lists, u.l)
	}
	for k, l := range lists {
		given, kept := roomy(l), roomy(l)
		for _, memory := range []int{-1, 0, 2, 4, 4096} {
			for _, entry := range []string{"main", "roomy", "f"} {
				x, _, _, _ := link.Link(given, entry, memory)
				spoil(x, -1)
			}
		}
		link.Bases(given)
		if !reflect.DeepEqual(whole(given), whole(kept)) {
			t.Errorf("R5: the list %d was changed", k)
		}
		if _, e, _, _ := link.Link(given, "roomy", 0); e == api.OK {
			t.Errorf("R5: what lies behind the ends of the list %d counts", k)
		}
	}
}

// spoil fills the lists of an image up to the ends of their room.
func spoil(x api.Image, with int64) {
	for k := range x.Text[:cap(x.Text)] {
		x.Text[:cap(x.Text)][k] = uint32(with)
	}
	for k := range x.Memory[:cap(x.Memory)] {
		x.Memory[:cap(x.Memory)][k] = with
	}
}

func TestAnswersAreApart(t *testing.T) {
	l := objects(exampleA(), exampleB())
	want := api.Image{Text: []uint32{call(3), halt, 0, set15, goLink, 0}, Memory: []int64{0, 7, 8, 0}}
	first, _, _, _ := link.Link(l, "main", 4)
	second, _, _, _ := link.Link(l, "main", 4)
	spoil(first, -1)
	if !sameImage(second, want) {
		t.Errorf("R5: two answers share memory: %x, not %x", second, want)
	}
	links(t, "once more", l, "main", 4, want)
	one := objects(withData(mainOf(halt, halt), 0, 5, 6))
	x, _, _, _ := link.Link(one, "main", 2)
	spoil(x, -1)
	if !reflect.DeepEqual(one, objects(withData(mainOf(halt, halt), 0, 5, 6))) {
		t.Errorf("R5: the image shares memory with its one object: %+v", one)
	}
	some, _ := link.Bases(l)
	others, _ := link.Bases(l)
	for k := range some[:cap(some)] {
		some[:cap(some)][k] = -1
	}
	if !slices.Equal(others, []int{0, 3}) {
		t.Errorf("R5: two answers share memory: %v", others)
	}
	hasBases(t, "once more", l, 0, 3)
}

func TestCallsKnowNothingOfEachOther(t *testing.T) {
	l := objects(withData(mainOf(halt), 0, 5))
	for range 3 {
		links(t, "data (R6)", l, "main", 2, api.Image{Text: []uint32{halt, 0}, Memory: []int64{5, 0}})
		links(t, "no data (R6)", objects(mainOf(halt)), "main", 2, api.Image{Text: []uint32{halt, 0}, Memory: []int64{0, 0}})
		refuses(t, "no entry (R6)", l, "f", 2, api.ErrEntry, 0, 0)
		hasNoBases(t, "too many (R6)", make([]api.Object, 33), api.ErrMany)
		hasBases(t, "one object (R6)", l, 0)
	}
}
