package class_test

import (
	"fmt"
	"math"
	"math/rand"
	"slices"
	"testing"

	"pleat/api"
)

// opWords are a word of each op, by the op, none of which is alone; but of Zero, which always is.
func opWords() []uint32 {
	return row(
		trap, set(1, 5), move(1, 2), add(1, 2, 3), ins(4, 1, 2, 3, 0), ins(5, 1, 2, 3, 0), ins(6, 1, 2, 3, 0), ins(7, 1, 2, 3, 0), ins(8, 1, 2, 3, 0), ins(9, 1, 2, 3, 0), ins(10, 1, 2, 3, 0),
		load(1, 2, 3), store(1, 2, 3), in(1), out(1, 2), jump(5), zero(1, 5), call(5), calls(2), goTo(2), place(1, 5), halt,
	)
}

// opKinds are the kinds of these words, each by itself.
var opKinds = [22]int8{
	api.Tail, api.Dead, api.Dead, api.Dead, api.Dead, api.Dead, api.Dead, api.Dead, api.Dead, api.Dead, api.Dead,
	api.Dead, api.Dead, api.Dead, api.Dead, api.Tail, api.None, api.Thunk, api.Thunk, api.Tail, api.Dead, api.Tail,
}

// goesOn tells whether an op neither ends a block nor is alone.
func goesOn(op int) bool { return opKinds[op] == api.Dead }

func TestKindOfNoWord(t *testing.T) {
	kind(t, "nil", api.None)
	kind(t, "no elements", api.None, []uint32{}...)
	kind(t, "no elements, but room", api.None, row(halt, halt)[:0]...)
}

func TestKindOfEachOp(t *testing.T) {
	for op, w := range opWords() {
		what := fmt.Sprint("the op ", op)
		kind(t, what+" by itself", opKinds[op], w)
		kind(t, what+" as the last of two", opKinds[op], set(1, 5), w)
		kind(t, what+" as the last of three", opKinds[op], out(1, 2), place(3, 0), w)
		kind(t, what+" as the last of many", opKinds[op], append(slices.Repeat(row(in(1), load(1, 1, 0)), 500), w)...)
	}
}

// TestKindOfEachOpAheadOfEach has each op ahead of each other one, at the first place and in the midst.
func TestKindOfEachOpAheadOfEach(t *testing.T) {
	for op, w := range opWords() {
		for last, v := range opWords() {
			want := opKinds[last]
			if !goesOn(op) {
				want = api.None
			}
			what := fmt.Sprint("the op ", op, " ahead of the op ", last)
			kind(t, what, want, w, v)
			kind(t, what+", at a distance", want, w, set(1, 5), in(2), v)
			kind(t, what+", others ahead", want, set(1, 5), in(2), w, v)
			kind(t, what+", in the midst", want, set(1, 5), w, in(2), v)
			for other, u := range opWords() {
				also := want
				if !goesOn(other) {
					also = api.None
				}
				kind(t, what+fmt.Sprint(", behind the op ", other), also, u, w, v)
			}
		}
	}
}

// lonely are words that are alone, by what they are.
func lonely() map[string]uint32 {
	l := map[string]uint32{
		"1": 1, "a trap with an n": 5, "an op of 22": 22 << 27, "an op of 31": 31 << 27, "all bits": math.MaxUint32, "a halt with a d": halt | 1<<23, "an add with an n": add(1, 2, 3) | 1,
		"a jump with its highest bit": jump(0) | 1<<14, "a move with a b": move(1, 2) | 1<<15, "a go with an n": goTo(15) | 1, "a call with an a": call(1) | 1<<19, "an out with a d": out(1, 0) | 1<<23,
		"set 15": set(15, 0), "move 15": move(15, 1), "move of 15": move(1, 15), "move 15 15": move(15, 15), "load 15": load(15, 1, 0), "load of 15": load(1, 15, 0),
		"store at 15": store(15, 1, 0), "store of 15": store(1, 15, 0), "store 15 15": store(15, 15, 0), "in 15": in(15), "out 15": out(15, 0), "place 15": place(15, 0), "calls 15": calls(15),
	}
	for op := uint32(3); op <= 10; op++ {
		l[fmt.Sprint("15 as the d of the op ", op)] = ins(op, 15, 1, 2, 0)
		l[fmt.Sprint("15 as the a of the op ", op)] = ins(op, 1, 15, 2, 0)
		l[fmt.Sprint("15 as the b of the op ", op)] = ins(op, 1, 2, 15, 0)
		l[fmt.Sprint("15 in all fields of the op ", op)] = ins(op, 15, 15, 15, 0)
	}
	for r := range uint32(16) {
		l[fmt.Sprint("zero ", r)] = zero(r, 0)
	}
	return l
}

func TestKindOfWhatIsAlone(t *testing.T) {
	for what, w := range lonely() {
		kind(t, what+" by itself", api.None, w)
		kind(t, what+", twice", api.None, w, w)
		for last, v := range opWords() {
			what := fmt.Sprint(what, ", and the op ", last)
			kind(t, what+": at the first place", api.None, w, v)
			kind(t, what+": at the first place of three", api.None, w, out(1, 0), v)
			kind(t, what+": in the midst", api.None, out(1, 0), w, v)
			kind(t, what+": ahead of the last but one", api.None, out(1, 0), w, in(1), in(2), v)
			kind(t, what+": at the last place", api.None, v, w)
			kind(t, what+": at the last place of three", api.None, out(1, 0), v, w)
		}
	}
}

// TestKindOfWhatTouchesTheLinkRegister has the words that do, and are not alone: each only as the last one.
func TestKindOfWhatTouchesTheLinkRegister(t *testing.T) {
	links := map[uint32]int8{goTo(15): api.Tail}
	for _, n := range []int{0, 1, 15, 16383} {
		links[call(n)] = api.Thunk
	}
	for r := range uint32(15) {
		links[calls(r)] = api.Thunk
		links[goTo(r)] = api.Tail
	}
	for w, want := range links {
		kind(t, "by itself", want, w)
		kind(t, "as the last", want, set(1, 5), w)
		kind(t, "as the last of four", want, set(1, 5), in(1), out(1, 1), w)
		kind(t, "as the first", api.None, w, set(1, 5))
		kind(t, "in the midst", api.None, set(1, 5), w, halt)
		kind(t, "twice", api.None, w, w)
	}
}

// reckonedKind tells the kind of a row, as P19.1 says it.
func reckonedKind(words ...uint32) int8 {
	var k int8
	for at, w := range words {
		i := taken(w)
		if i.alone() || at < len(words)-1 && i.ends() {
			return api.None
		}
		switch {
		case i.is(api.Trap, api.Jump, api.Go, api.Halt):
			k = api.Tail
		case i.is(api.Call, api.Calls):
			k = api.Thunk
		default:
			k = api.Dead
		}
	}
	return k
}

func kindAsReckoned(t *testing.T, words ...uint32) int8 {
	t.Helper()
	want := reckonedKind(words...)
	kind(t, "as reckoned", want, words...)
	return want
}

// TestKindOfAllWords has each op with all registers in all fields, those that it does not have too, by itself and at either end.
func TestKindOfAllWords(t *testing.T) {
	for op := range uint32(32) {
		for r := range uint32(4096) {
			for _, n := range []int{0, 1, 16383, -16384, -1} {
				w := ins(op, r/256, r/16%16, r%16, n)
				kindAsReckoned(t, w)
				kindAsReckoned(t, set(1, 5), w)
				kindAsReckoned(t, w, goTo(15))
			}
		}
	}
}

func TestKindOfTossedRows(t *testing.T) {
	r := rand.New(rand.NewSource(191))
	count := map[int8]int{}
	for range 200000 {
		var words []uint32
		for range r.Intn(7) {
			words = append(words, set(uint32(r.Intn(16)), 5), out(uint32(r.Intn(15)), 0))
		}
		for range 1 + r.Intn(2) {
			words = slices.Insert(words, r.Intn(len(words)+1), tossedWord(r, 9))
		}
		count[kindAsReckoned(t, words...)]++
	}
	for k := api.None; k <= api.Dead; k++ {
		if count[k] < 5000 {
			t.Errorf("only %d rows are of the kind %d", count[k], k)
		}
	}
}
