package gain_test

import (
	"math/rand"
	"slices"
	"testing"

	"pleat/api"
	"pleat/gain"
)

// rows tells what stands at a spot of a class that is folded, and what stands in the function behind the sequence, and how many of the sequence's own words are left there.
func rows(class int8) (spot, behind []string) {
	switch class {
	case api.Tail:
		return []string{"jump"}, nil
	case api.Thunk:
		return []string{"call"}, nil // the last one's place is taken by a jump or a go
	case api.Dead:
		return []string{"call"}, []string{"go 15"}
	case api.Spare:
		return []string{"move", "call", "move back"}, []string{"go 15"}
	}
	return nil, nil
}

// reckoned tells what spots pay, one word after the other counted.
func reckoned(n int, l []api.Spot) int {
	before, after := 0, 0
	for k, s := range l {
		spot, behind := rows(s.Class)
		for range n {
			before++
		}
		for range spot {
			after++
		}
		if k == 0 && spot != nil {
			for range n {
				after++
			}
			for range behind {
				after++
			}
		}
	}
	return before - after
}

// tally counts what was met.
type tally map[string]int

func (c tally) needs(t *testing.T, least map[string]int) {
	t.Helper()
	for what, n := range least {
		if c[what] < n {
			t.Errorf("only %d times: %s", c[what], what)
		}
	}
}

// asReckoned holds Of, and that its parts are what Cost and Size tell.
func asReckoned(t *testing.T, c tally, n int, l []api.Spot) {
	t.Helper()
	want := reckoned(n, l)
	pays(t, "as reckoned", n, l, want)
	switch {
	case want < 0:
		c["below 0"]++
	case want == 0:
		c["0"]++
	default:
		c["above 0"]++
	}
	for k, s := range l {
		if s.Class < api.Tail || s.Class > api.Spare {
			c["no class"]++
			if k == 0 {
				c["no class at the front"]++
			}
		}
	}
	if len(l) == 0 {
		return
	}
	ahead := gain.Of(n, l[:len(l)-1])
	last := l[len(l)-1].Class
	more := n - gain.Cost(last)
	if len(l) == 1 {
		more -= gain.Size(last, n)
	}
	if want != ahead+more {
		t.Fatalf("P21.3: Of %d and %v is %d, but %d without the last one, and that pays %d", n, l, want, ahead, more)
	}
}

// TestAllShortLists has every list of the classes and of a few more numbers.
func TestAllShortLists(t *testing.T) {
	c := tally{}
	numbers := []int8{api.None, api.Tail, api.Thunk, api.Dead, api.Spare, 5, 9, -1, -128, 127}
	var grow func(l []int8)
	grow = func(l []int8) {
		for _, n := range []int{1, 2, 3, 4, 5, 9, most} {
			asReckoned(t, c, n, of(l...))
		}
		if len(l) == 4 {
			return
		}
		for _, class := range numbers {
			grow(append(slices.Clone(l), class))
		}
	}
	grow(nil)
	c.needs(t, map[string]int{"below 0": 3000, "0": 500, "above 0": 10000, "no class": 10000, "no class at the front": 10000})
}

// TestAllListsOfClasses has longer ones, of the four classes alone.
func TestAllListsOfClasses(t *testing.T) {
	c := tally{}
	var grow func(l []int8)
	grow = func(l []int8) {
		for n := 1; n <= 6; n++ {
			asReckoned(t, c, n, of(l...))
		}
		if len(l) == 7 {
			return
		}
		for _, class := range classes {
			grow(append(slices.Clone(l), class))
		}
	}
	grow(nil)
	c.needs(t, map[string]int{"below 0": 20000, "0": 2000, "above 0": 20000})
}

func drawn(r *rand.Rand, size int) []api.Spot {
	l := make([]api.Spot, size)
	for k := range l {
		class := int8(1 + r.Intn(4))
		if r.Intn(4) == 0 {
			class = int8(r.Intn(256) - 128)
		}
		l[k] = api.Spot{At: r.Intn(40000) - 10000, Class: class, Reg: int8(r.Intn(256) - 128)}
	}
	return l
}

func TestDrawnLists(t *testing.T) {
	r := rand.New(rand.NewSource(211))
	c := tally{}
	for range 20000 {
		asReckoned(t, c, 1+r.Intn(6), drawn(r, r.Intn(12)))
	}
	for range 300 {
		asReckoned(t, c, 1+r.Intn(most), drawn(r, r.Intn(300)))
	}
	c.needs(t, map[string]int{"below 0": 2000, "0": 500, "above 0": 8000, "no class": 10000, "no class at the front": 3000})
}

// TestOrder has the spots of a list in other orders: what they pay hangs on the first one's class alone.
func TestOrder(t *testing.T) {
	r := rand.New(rand.NewSource(212))
	c := tally{}
	for range 3000 {
		n, l := 1+r.Intn(9), drawn(r, 2+r.Intn(9))
		want := gain.Of(n, l)
		other := slices.Clone(l)
		r.Shuffle(len(other)-1, func(a, b int) { other[a+1], other[b+1] = other[b+1], other[a+1] })
		pays(t, "the others in another order", n, other, want)
		k := 1 + r.Intn(len(l)-1)
		other[0], other[k] = other[k], other[0]
		moved := gain.Size(other[0].Class, n) - gain.Size(other[k].Class, n)
		pays(t, "another one first", n, other, want-moved)
		if moved != 0 {
			c["another function"]++
		} else {
			c["a function as large"]++
		}
	}
	c.needs(t, map[string]int{"another function": 1000, "a function as large": 300})
}
