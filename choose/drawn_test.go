package choose_test

import (
	"math/rand"
	"slices"
	"testing"

	"pleat/api"
)

// drawnText tells an image of a few rows of words, laid one behind the other in any order.
func drawnText(r *rand.Rand, most int) api.Image {
	size := 12 + r.Intn(most)
	phrases := make([][]uint32, 2+r.Intn(3))
	for k := range phrases {
		for range 1 + r.Intn(5) {
			phrases[k] = append(phrases[k], oneOf(r, set(1, r.Intn(2)), add(2, 1, 1), out(1, 0), out(2, 1), move(3, 2)))
		}
	}
	ends := row(halt, goTo(15), calls(4), call(r.Intn(size)), jump(r.Intn(size)), zero(2, r.Intn(size)))
	var words []uint32
	for len(words) < size {
		words = append(words, oneOf(r, phrases...)...)
		if r.Intn(2) == 0 {
			words = append(words, oneOf(r, ends...))
		}
	}
	words[size-1] = halt
	return api.Image{Text: words[:size], Entry: r.Intn(size)}
}

// wordOf tells a word that goes on, of any of so many registers.
func wordOf(r *rand.Rand, registers int) uint32 {
	reg := func() uint32 { return uint32(r.Intn(registers)) }
	return oneOf(r, set(reg(), r.Intn(9)), move(reg(), reg()), add(reg(), reg(), reg()), store(reg(), reg()), in(reg()), out(reg(), 0), out(reg(), 1))
}

// functions tells an image of functions, the bodies of which are pieces of one row, so that long sequences stand twice; behind some of them the link register is live, and few or no registers are left.
func functions(r *rand.Rand, most int) api.Image {
	size := 20 + r.Intn(most)
	registers := oneOf(r, 3, 8, 12, 15, 15)
	var book []uint32
	for range 8 + r.Intn(40) {
		book = append(book, wordOf(r, registers))
		if r.Intn(12) == 0 {
			book = append(book, oneOf(r, call(0), calls(3), goTo(15)))
		}
	}
	var words []uint32
	for len(words) < size {
		from := r.Intn(len(book))
		words = append(words, book[from:from+r.Intn(len(book)-from+1)]...)
		switch r.Intn(8) {
		case 0:
			words = append(words, wordOf(r, 15))
		case 1:
			words = append(words, oneOf(r, call(r.Intn(size)), calls(3), zero(3, r.Intn(size)), jump(r.Intn(size))))
		case 2:
			words = append(words, oneOf(r, row(halt), row(trap), row(place(4, r.Intn(size)), move(4, 15), move(15, 4)))...)
		case 3, 4:
			words = append(words, goTo(15))
		}
	}
	words = words[:size]
	for reg := range uint32(15) {
		if r.Intn(3) > 0 {
			words = append(words, out(reg, 0))
		}
	}
	last := oneOf(r, goTo(15), goTo(15), goTo(15), halt, jump(r.Intn(size)))
	return api.Image{Text: append(words, last), Entry: r.Intn(size)}
}

// straight tells an image of one row that is a few pieces again and again, behind all of which the link register is live, or dead behind all.
func straight(r *rand.Rand, most int) api.Image {
	size := 8 + r.Intn(most)
	registers := oneOf(r, 2, 14, 15)
	pieces := make([][]uint32, 1+r.Intn(4))
	for k := range pieces {
		for range 1 + r.Intn(20) {
			pieces[k] = append(pieces[k], wordOf(r, registers))
		}
	}
	words := row(call(2), halt)
	for len(words) < size {
		words = append(words, oneOf(r, pieces...)...)
	}
	if r.Intn(2) == 0 {
		words = append(words, readsAll()...)
	}
	return text(words, row(oneOf(r, goTo(15), goTo(15), halt)))
}

// rivals tells an image of rows, of several lengths, that stand so often that some of them pay the same.
func rivals(r *rand.Rand) api.Image {
	var rows [][]uint32
	for k := range 2 + r.Intn(4) {
		n, times := 2+r.Intn(5), 2+r.Intn(4)
		rows = append(rows, slices.Repeat([][]uint32{ports(uint32(k), 0, n)}, times)...)
	}
	r.Shuffle(len(rows), func(i, k int) { rows[i], rows[k] = rows[k], rows[i] })
	var words []uint32
	for k, l := range rows {
		// What stands once parts them: no longer sequence stands twice.
		words = append(append(words, l...), oneOf(r, set(14, k), set(14, k), halt))
	}
	return text(words, end())
}

func TestDrawnTexts(t *testing.T) {
	r := rand.New(rand.NewSource(224))
	c := tally{}
	for k := range 2000 {
		x := drawnText(r, 40)
		asReckoned(t, c, x)
		if k%10 == 0 {
			oneWay(t, c, x)
		}
	}
	for range 30 {
		asReckoned(t, c, drawnText(r, 400))
	}
	c.needs(t, map[string]int{"no spot": 300, "some places": 1000, "below 0": 1000, "0": 1000, "above 0": 1000, "none": 300, "tail": 100, "thunk": 30, "dead": 300, "spare": 30, "two classes": 10, "one pays": 100, "by gain": 300, "by length": 100, "by place": 100})
}

func TestDrawnFunctions(t *testing.T) {
	r := rand.New(rand.NewSource(225))
	c := tally{}
	for range 1000 {
		asReckoned(t, c, functions(r, 60))
	}
	for range 20 {
		asReckoned(t, c, functions(r, 400))
	}
	c.needs(t, map[string]int{"no spot": 1000, "some places": 1000, "above 0": 1000, "none": 30, "tail": 30, "thunk": 30, "dead": 100, "spare": 100, "two classes": 10, "one pays": 10, "by gain": 300, "by length": 10, "by place": 10})
}

func TestDrawnRows(t *testing.T) {
	r := rand.New(rand.NewSource(226))
	c := tally{}
	for range 400 {
		asReckoned(t, c, straight(r, 50))
	}
	for range 6 {
		asReckoned(t, c, straight(r, 250))
	}
	c.needs(t, map[string]int{"no spot": 1000, "some places": 1000, "above 0": 1000, "none": 100, "dead": 50, "spare": 50, "by gain": 100})
}

func TestDrawnRivals(t *testing.T) {
	r := rand.New(rand.NewSource(227))
	c := tally{}
	for k := range 1000 {
		x := rivals(r)
		asReckoned(t, c, x)
		if k%10 == 0 {
			oneWay(t, c, x)
		}
	}
	c.needs(t, map[string]int{"one pays": 10, "by gain": 300, "by length": 30, "by place": 300})
}

// TestDrawnPlaces holds Fold of some of the places of a sequence, and of others between them, in order or not.
func TestDrawnPlaces(t *testing.T) {
	r := rand.New(rand.NewSource(228))
	c := tally{}
	for range 1500 {
		x := oneOf(r, drawnText, functions, straight)(r, 40)
		size := len(x.Text)
		for range 30 {
			n, first := 2+r.Intn(5), r.Intn(size)
			at := []int{first}
			for k := first + 1; k+n <= size; k++ {
				if first+n <= size && slices.Equal(x.Text[k:k+n], x.Text[first:first+n]) && r.Intn(4) > 0 {
					at = append(at, k)
				}
			}
			if r.Intn(9) == 0 {
				at[r.Intn(len(at))] = oneOf(r, -1, size, size-n+1, r.Intn(size))
			}
			asPut(t, c, x, stands(n, at...))
		}
	}
	c.needs(t, map[string]int{"refused": 1000, "no spot": 1000, "some places": 1000, "below 0": 1000, "0": 100, "above 0": 100})
}
