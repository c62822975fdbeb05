package word_test

import (
	"math"
	"math/big"
	"strconv"
	"strings"
	"testing"

	"pleat/api"
	"pleat/word"
)

const (
	least    = math.MinInt64
	greatest = math.MaxInt64
)

// edges are numbers at which a sum, a product or a text may go wrong.
func edges() []int64 {
	return []int64{
		least, least + 1, -1 << 32, -1<<31 - 1, -1 << 31, -10, -2, -1,
		0, 1, 2, 9, 10, 99, 1<<31 - 1, 1 << 31, 1 << 32, 1<<62 + 1, greatest - 1, greatest,
	}
}

func known() []int8 {
	return []int8{api.Add, api.Sub, api.Mul, api.And, api.Or, api.Xor, api.Less, api.Same}
}

func isKnown(op int8) bool {
	for _, k := range known() {
		if k == op {
			return true
		}
	}
	return false
}

// round cuts a number of any length to 64 bits, as DOC.md's 'going round' says it.
func round(x *big.Int) int64 {
	whole := new(big.Int).Lsh(big.NewInt(1), 64)
	half := new(big.Int).Lsh(big.NewInt(1), 63)
	x = new(big.Int).Mod(x, whole)
	if x.Cmp(half) >= 0 {
		x.Sub(x, whole)
	}
	return x.Int64()
}

// expected reckons with numbers of any length, so that it knows nothing of how Go's own go round.
func expected(op int8, a, b int64) int64 {
	x, y, z := big.NewInt(a), big.NewInt(b), new(big.Int)
	switch op {
	case api.Add:
		return round(z.Add(x, y))
	case api.Sub:
		return round(z.Sub(x, y))
	case api.Mul:
		return round(z.Mul(x, y))
	case api.And:
		return round(z.And(x, y))
	case api.Or:
		return round(z.Or(x, y))
	case api.Xor:
		return round(z.Xor(x, y))
	}
	if op == api.Less && x.Cmp(y) < 0 || op == api.Same && x.Cmp(y) == 0 {
		return 1
	}
	return 0
}

func TestPlain(t *testing.T) {
	for _, v := range edges() {
		if w := word.Plain(v); w != (api.Word{V: v, Code: false}) {
			t.Errorf("P1.1: Plain(%d) is %v", v, w)
		}
	}
}

func TestSealed(t *testing.T) {
	for _, place := range []int{0, 1, 7, api.MaxText - 1, api.MaxText, math.MaxInt, -1, math.MinInt} {
		if w := word.Sealed(place); w != (api.Word{V: int64(place), Code: true}) {
			t.Errorf("P1.1: Sealed(%d) is %v", place, w)
		}
	}
}

func TestCalcByHand(t *testing.T) {
	for _, c := range []struct {
		op   int8
		a, b int64
		want int64
	}{
		{api.Add, 2, 3, 5},
		{api.Add, greatest, 1, least},
		{api.Add, least, -1, greatest},
		{api.Add, least, least, 0},
		{api.Sub, 2, 3, -1},
		{api.Sub, least, 1, greatest},
		{api.Sub, greatest, -1, least},
		{api.Sub, 0, least, least},
		{api.Mul, -2, 3, -6},
		{api.Mul, 1 << 32, 1 << 32, 0},
		{api.Mul, 1 << 62, 2, least},
		{api.Mul, least, -1, least},
		{api.Mul, greatest, greatest, 1},
		{api.And, 6, 3, 2},
		{api.And, -1, 5, 5},
		{api.Or, 6, 3, 7},
		{api.Or, least, 1, least + 1},
		{api.Xor, 6, 3, 5},
		{api.Xor, -1, 5, -6},
		{api.Less, -1, 0, 1},
		{api.Less, 0, -1, 0},
		{api.Less, 4, 4, 0},
		{api.Less, least, greatest, 1},
		{api.Less, greatest, least, 0},
		{api.Same, 4, 4, 1},
		{api.Same, 4, 5, 0},
		{api.Same, least, greatest, 0},
	} {
		w, f := word.Calc(c.op, word.Plain(c.a), word.Plain(c.b))
		if w != word.Plain(c.want) || f != api.Running {
			t.Errorf("P1.2: Calc(%d, %d, %d) is %v, %d; not %d", c.op, c.a, c.b, w, f, c.want)
		}
	}
}

func TestCalcPlain(t *testing.T) {
	for _, op := range known() {
		for _, a := range edges() {
			for _, b := range edges() {
				w, f := word.Calc(op, word.Plain(a), word.Plain(b))
				if want := expected(op, a, b); w != word.Plain(want) || f != api.Running {
					t.Errorf("P1.2: Calc(%d, %d, %d) is %v, %d; not %d", op, a, b, w, f, want)
				}
			}
		}
	}
}

func TestCalcSealed(t *testing.T) {
	p, s := word.Plain(3), word.Sealed(3)
	for _, op := range known() {
		for _, c := range [][2]api.Word{{p, s}, {s, p}, {s, s}} {
			if op == api.Same && c[0] == c[1] {
				continue
			}
			if w, f := word.Calc(op, c[0], c[1]); w != (api.Word{}) || f != api.FaultSeal {
				t.Errorf("P1.2: Calc(%d, %v, %v) is %v, %d; not FaultSeal", op, c[0], c[1], w, f)
			}
		}
	}
}

func TestCalcSameSealed(t *testing.T) {
	for _, a := range []int{-1, 0, 3, 4, math.MaxInt} {
		for _, b := range []int{-1, 0, 3, 4, math.MaxInt} {
			want := word.Plain(0)
			if a == b {
				want = word.Plain(1)
			}
			if w, f := word.Calc(api.Same, word.Sealed(a), word.Sealed(b)); w != want || f != api.Running {
				t.Errorf("P1.2: Calc(Same, @%d, @%d) is %v, %d", a, b, w, f)
			}
		}
	}
}

func TestCalcOtherOps(t *testing.T) {
	words := []api.Word{word.Plain(0), word.Plain(1), word.Sealed(0), word.Sealed(1)}
	for n := math.MinInt8; n <= math.MaxInt8; n++ {
		if op := int8(n); !isKnown(op) {
			for _, a := range words {
				for _, b := range words {
					if w, f := word.Calc(op, a, b); w != (api.Word{}) || f != api.FaultIns {
						t.Errorf("P1.2: Calc(%d, %v, %v) is %v, %d; not FaultIns", op, a, b, w, f)
					}
				}
			}
		}
	}
}

func TestAddress(t *testing.T) {
	p, s := word.Plain, word.Sealed
	for _, c := range []struct {
		a    api.Word
		n    int64
		size int
		at   int
		f    int8
	}{
		{p(3), 2, 6, 5, api.Running},
		{p(5), -5, 1, 0, api.Running},
		{p(0), 0, 1, 0, api.Running},
		{p(0), api.MaxMemory - 1, api.MaxMemory, api.MaxMemory - 1, api.Running},
		{p(0), api.MaxMemory, api.MaxMemory, 0, api.FaultData},
		{p(5), 1, 6, 0, api.FaultData},
		{p(5), -6, 9, 0, api.FaultData},
		{p(-1), 0, 9, 0, api.FaultData},
		{p(-1), 1, 9, 0, api.Running},
		{p(-7), 15, 9, 8, api.Running},
		{p(-7), 16, 9, 0, api.FaultData},
		{p(0), 0, 0, 0, api.FaultData},
		{p(0), 0, -1, 0, api.FaultData},
		{p(-1), 0, -1, 0, api.FaultData},
		{p(-2), 0, -1, 0, api.FaultData},
		{p(0), 0, math.MinInt, 0, api.FaultData},
		{p(greatest), 1, 9, 0, api.FaultData},
		{p(1), greatest, math.MaxInt, 0, api.FaultData},
		{p(greatest), 0, math.MaxInt, 0, api.FaultData},
		{p(greatest), -1, math.MaxInt, math.MaxInt - 1, api.Running},
		{p(least), least, 9, 0, api.Running},
		{p(least + 3), least, 9, 3, api.Running},
		{p(least), -1, 9, 0, api.FaultData},
		{p(1 << 32), 0, 9, 0, api.FaultData},
		{s(0), 0, 9, 0, api.FaultSeal},
		{s(3), 2, 6, 0, api.FaultSeal},
		{s(3), 9, 6, 0, api.FaultSeal},
		{s(0), 0, 0, 0, api.FaultSeal},
		{s(-1), 0, -1, 0, api.FaultSeal},
	} {
		if at, f := word.Address(c.a, c.n, c.size); at != c.at || f != c.f {
			t.Errorf("P1.3: Address(%v, %d, %d) is %d, %d; not %d, %d", c.a, c.n, c.size, at, f, c.at, c.f)
		}
	}
}

func TestText(t *testing.T) {
	for _, c := range []struct {
		w    api.Word
		text string
	}{
		{word.Plain(0), "0"},
		{word.Plain(-5), "-5"},
		{word.Plain(10), "10"},
		{word.Plain(greatest), "9223372036854775807"},
		{word.Plain(least), "-9223372036854775808"},
		{word.Sealed(0), "@0"},
		{word.Sealed(7), "@7"},
		{word.Sealed(-7), "@-7"},
		{api.Word{V: greatest, Code: true}, "@9223372036854775807"},
		{api.Word{V: least, Code: true}, "@-9223372036854775808"},
	} {
		if text := word.Text(c.w); text != c.text {
			t.Errorf("P1.4: Text(%v) is %q, not %q", c.w, text, c.text)
		}
		if w, is := word.Read(c.text); w != c.w || !is {
			t.Errorf("P1.4: Read(%q) is %v, %v; not %v", c.text, w, is, c.w)
		}
	}
}

func TestReadWrong(t *testing.T) {
	for _, s := range []string{
		"", "@", "-", "@-", "-@", "-@7", "7@", "@@7", "--5", "5-", "-5-", "1-2", "@7@",
		"+1", "@+1", "+", "01", "00", "-0", "-01", "@01", "@-0", "@-01",
		" 1", "1 ", "1 2", "\t1", "1\n", "@ 7", "1_000", "1,0", "1.0", "1e3", "0x10", "a", "1a", "a1", "A",
		"1/", "1:", "\x00", "1\x00", "\xff", "1\x80", "٣", "-", "−5", "@٣", "名",
		"9223372036854775808", "-9223372036854775809", "@9223372036854775808", "@-9223372036854775809",
		"18446744073709551615", "18446744073709551616", "18446744073709551621", "-18446744073709551616",
		"99999999999999999999999", "1" + strings.Repeat("0", 1000), strings.Repeat("0", 1000), strings.Repeat("@", 1000),
	} {
		if w, is := word.Read(s); w != (api.Word{}) || is {
			t.Errorf("P1.4: Read(%q) is %v, %v; it is no word's text", s, w, is)
		}
	}
}

// readByLibrary is Read by other means: the library reads more than a word's texts, and its own writing tells which.
func readByLibrary(s string) (api.Word, bool) {
	number := strings.TrimPrefix(s, "@")
	v, err := strconv.ParseInt(number, 10, 64)
	if err != nil || strconv.FormatInt(v, 10) != number {
		return api.Word{}, false
	}
	return api.Word{V: v, Code: number != s}, true
}

func TestReadShortTexts(t *testing.T) {
	texts := []string{""}
	for range 5 {
		var longer []string
		for _, s := range texts {
			for _, c := range "@-+019 a" {
				longer = append(longer, s+string(c))
			}
		}
		for _, s := range longer {
			got, gotIs := word.Read(s)
			want, wantIs := readByLibrary(s)
			if got != want || gotIs != wantIs {
				t.Errorf("P1.4: Read(%q) is %v, %v; not %v, %v", s, got, gotIs, want, wantIs)
			}
			if gotIs && word.Text(got) != s {
				t.Errorf("What follows: Text of Read of %q is %q", s, word.Text(got))
			}
		}
		texts = longer
	}
}

func TestReadAroundTheEnds(t *testing.T) {
	for _, end := range []string{"922337203685477580", "1844674407370955161", "-922337203685477580", "-1844674407370955161"} {
		for last := range 100 {
			for _, s := range []string{end + strconv.Itoa(last), "@" + end + strconv.Itoa(last)} {
				got, gotIs := word.Read(s)
				want, wantIs := readByLibrary(s)
				if got != want || gotIs != wantIs {
					t.Errorf("P1.4: Read(%q) is %v, %v; not %v, %v", s, got, gotIs, want, wantIs)
				}
			}
		}
	}
}

func TestReadOfText(t *testing.T) {
	for _, v := range edges() {
		for _, w := range []api.Word{{V: v}, {V: v, Code: true}} {
			if got, is := word.Read(word.Text(w)); got != w || !is {
				t.Errorf("What follows: Read of Text of %v is %v, %v", w, got, is)
			}
		}
	}
}

// Two runs whose sealed words are renamed one for one calculate alike.
func TestSealedWordsRenamed(t *testing.T) {
	renamed := func(w api.Word) api.Word {
		if w.Code {
			w.V = 5*w.V ^ 1000
		}
		return w
	}
	var words []api.Word
	for n := range 6 {
		words = append(words, word.Plain(int64(n)), word.Sealed(n))
	}
	for op := int8(-1); op <= api.Halt+1; op++ {
		for _, a := range words {
			for _, b := range words {
				w, f := word.Calc(op, a, b)
				x, g := word.Calc(op, renamed(a), renamed(b))
				if w != x || f != g {
					t.Errorf("What follows: Calc(%d, %v, %v) is %v, %d; renamed %v, %d", op, a, b, w, f, x, g)
				}
			}
		}
	}
	for _, a := range words {
		at, f := word.Address(a, 1, 4)
		x, g := word.Address(renamed(a), 1, 4)
		if at != x || f != g {
			t.Errorf("What follows: Address(%v) is %d, %d; renamed %d, %d", a, at, f, x, g)
		}
	}
}
