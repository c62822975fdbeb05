package number_test

import (
	"math/rand"
	"testing"

	"pleat/number"
)

func same(t *testing.T, what string, v, w uint32, want bool) {
	t.Helper()
	if got := number.Same(v, w); got != want {
		t.Fatalf("P15.2: %s: Same of %#x and %#x is %t", what, v, w, got)
	}
	if got := number.Same(w, v); got != want {
		t.Fatalf("P15.2: %s, the other way round: Same of %#x and %#x is %t", what, w, v, got)
	}
}

func TestSameOfOneWord(t *testing.T) {
	for what, w := range common() {
		same(t, what, w, w, true)
	}
	for what, w := range lonely() {
		same(t, what, w, w, false)
	}
	for r := range uint32(15) {
		same(t, "set", set(r, 0), set(r, 0), true)
		same(t, "go", goTo(r), goTo(r), true)
		same(t, "calls", calls(r), calls(r), true)
		same(t, "zero", zero(r, 3), zero(r, 3), false)
	}
	for _, n := range []int{0, 1, 15, 16383} {
		same(t, "call", call(n), call(n), true)
		same(t, "jump", jump(n), jump(n), true)
		same(t, "zero", zero(1, n), zero(1, n), false)
	}
}

func TestSameOfUnlikeWords(t *testing.T) {
	all := common()
	for what, w := range lonely() {
		all[what] = w
	}
	for what, v := range all {
		for other, w := range all {
			if v != w {
				same(t, what+", "+other, v, w, false)
			}
		}
		for bit := range 32 {
			same(t, what+", and another bit", v, v^1<<bit, false)
		}
	}
}

// TestSameAsReckoned has words of each op with each register, tossed ones, and each beside itself and others near it.
func TestSameAsReckoned(t *testing.T) {
	holds := func(w uint32) {
		same(t, "itself", w, w, !lone(w))
		same(t, "the next one", w, w+1, false)
		same(t, "the next register", w, w+1<<15, false)
	}
	for op := range uint32(32) {
		for r := range uint32(4096) {
			for _, n := range []int{0, 1, 16383, -16384, -1} {
				holds(ins(op, r/256, r/16%16, r%16, n))
			}
		}
		for n := range 32768 {
			holds(ins(op, 0, 0, 0, n))
			holds(ins(op, 0, 15, 0, n))
		}
	}
	r := rand.New(rand.NewSource(152))
	for range 300000 {
		holds(r.Uint32())
	}
}
