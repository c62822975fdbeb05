// Package word is layer 1: the machine's words, plain numbers and sealed places. See shared/doc/01-word.md.
package word

import (
	"strconv"

	"pleat/api"
)

const seal = "@"

// Plain tells the plain word v.
func Plain(v int64) api.Word { return api.Word{V: v} }

// Sealed tells the sealed word of a place, whatever the place is.
func Sealed(place int) api.Word { return api.Word{V: int64(place), Code: true} }

// Calc tells what op makes of a and b, and Running; no word and a fault, if it makes none of them.
func Calc(op int8, a, b api.Word) (api.Word, int8) {
	makes, fault := operation(op, a, b)
	if fault != api.Running {
		return api.Word{}, fault
	}
	return Plain(makes(a.V, b.V)), api.Running
}

// operation tells what op does with the numbers of a and b, and the fault that hinders it.
func operation(op int8, a, b api.Word) (makes func(x, y int64) int64, fault int8) {
	switch op {
	case api.Add:
		makes = func(x, y int64) int64 { return x + y }
	case api.Sub:
		makes = func(x, y int64) int64 { return x - y }
	case api.Mul:
		makes = func(x, y int64) int64 { return x * y }
	case api.And:
		makes = func(x, y int64) int64 { return x & y }
	case api.Or:
		makes = func(x, y int64) int64 { return x | y }
	case api.Xor:
		makes = func(x, y int64) int64 { return x ^ y }
	case api.Less:
		makes = func(x, y int64) int64 { return truth(x < y) }
	case api.Same:
		return func(x, y int64) int64 { return truth(x == y) }, sealFault(a.Code != b.Code)
	default:
		return nil, api.FaultIns
	}
	return makes, sealFault(a.Code || b.Code)
}

func sealFault(broken bool) int8 {
	if broken {
		return api.FaultSeal
	}
	return api.Running
}

func truth(is bool) int64 {
	if is {
		return 1
	}
	return 0
}

// Address tells the address a + n of a memory of size words, and Running; 0 and a fault, if there is none.
func Address(a api.Word, n int64, size int) (int, int8) {
	if a.Code {
		return 0, api.FaultSeal
	}
	at := a.V + n
	if at < 0 || at >= int64(size) {
		return 0, api.FaultData
	}
	return int(at), api.Running
}

// Text tells w's number in tens; a sealed one's has an @ ahead.
func Text(w api.Word) string {
	number := strconv.FormatInt(w.V, 10)
	if w.Code {
		return seal + number
	}
	return number
}

// Read tells the word whose text s is, and true; no word and false, if s is no word's.
func Read(s string) (api.Word, bool) {
	w := gather(s)
	// A word has one text only: so this refuses signs at wrong places, noughts ahead, and numbers that went round.
	if Text(w) != s {
		return api.Word{}, false
	}
	return w, true
}

// gather tells the one word whose text s may be; whether it is, the caller asks.
func gather(s string) (w api.Word) {
	minus := false
gathering:
	for i := 0; i < len(s); i++ {
		switch c := s[i]; {
		case c == seal[0]:
			w.Code = true
		case c == '-':
			minus = true
		case '0' <= c && c <= '9':
			w.V = w.V*10 + int64(c-'0')
		default:
			break gathering
		}
	}
	// The least number is its own negative, so going round brings it out right.
	if minus {
		w.V = -w.V
	}
	return w
}
