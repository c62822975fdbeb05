package touch_test

import (
	"math/rand"
	"strings"
	"testing"

	"pleat/touch"
)

// fields are written out by hand, as DOC.md's table has them: the letters D, A, B; N for a number, P for a place.
var fields = [22]string{
	"", "DN", "DA", "DAB", "DAB", "DAB", "DAB", "DAB", "DAB", "DAB", "DAB",
	"DAN", "ABN", "D", "AN", "P", "AP", "P", "A", "A", "DP", "",
}

var names = [22]string{
	"trap", "set", "move", "add", "sub", "mul", "and", "or", "xor", "less", "same",
	"load", "store", "in", "out", "jump", "zero", "call", "calls", "go", "place", "halt",
}

// answer is all that the package tells of one word.
type answer struct {
	reads, writes uint16
	links, alone  bool
}

func told(w uint32) answer {
	return answer{touch.Reads(w), touch.Writes(w), touch.Links(w), touch.Alone(w)}
}

// taken tells a word's parts, by divisions; is tells whether it is an instruction.
func taken(w uint32) (op, d, a, b int, is bool) {
	n := w % 32768
	b, a, d, op = int(w/32768%16), int(w/524288%16), int(w/8388608%16), int(w/134217728)
	if op > 21 {
		return op, d, a, b, false
	}
	has := fields[op]
	is = (d == 0 || strings.Contains(has, "D")) && (a == 0 || strings.Contains(has, "A")) && (b == 0 || strings.Contains(has, "B"))
	switch {
	case strings.Contains(has, "P"):
		is = is && n < 16384
	case !strings.Contains(has, "N"):
		is = is && n == 0
	}
	return op, d, a, b, is
}

// registers is a set told one by one, so that it knows nothing of bits.
type registers [16]bool

func (s registers) number() uint16 {
	sum, one := 0, 1
	for _, in := range s {
		if in {
			sum += one
		}
		one *= 2
	}
	return uint16(sum)
}

// reckonedSets tells what a word reads and writes, as P13.1 says it.
func reckonedSets(w uint32) (reads, writes registers) {
	op, d, a, b, is := taken(w)
	if !is {
		return registers{}, registers{}
	}
	if strings.Contains(fields[op], "A") {
		reads[a] = true
	}
	if strings.Contains(fields[op], "B") {
		reads[b] = true
	}
	if strings.Contains(fields[op], "D") {
		writes[d] = true
	}
	if names[op] == "call" || names[op] == "calls" {
		writes[15] = true
	}
	return reads, writes
}

// reckoned tells the answer, as P13.1 and P13.2 say it.
func reckoned(w uint32) answer {
	op, _, a, _, is := taken(w)
	reads, writes := reckonedSets(w)
	links := reads[15] || writes[15]
	alone := links
	switch {
	case !is:
		alone = true
	case names[op] == "zero":
		alone = true
	case names[op] == "go", names[op] == "call", names[op] == "calls" && a != 15:
		alone = false
	}
	return answer{reads.number(), writes.number(), links, alone}
}

func holds(t *testing.T, w uint32) {
	t.Helper()
	if got, want := told(w), reckoned(w); got != want {
		t.Fatalf("P13.1, P13.2: %#08x: %v, not %v", w, got, want)
	}
}

// TestAllRegistersOfAllOps has each of the 32 numbers that the highest bits can be, with all registers in all fields, those that the op does not have too, and Ns of each kind.
func TestAllRegistersOfAllOps(t *testing.T) {
	for op := range uint32(32) {
		for r := range uint32(4096) {
			for _, n := range []int{0, 1, 5, 16383, -16384, -1} {
				holds(t, ins(op, r/256, r/16%16, r%16, n))
			}
		}
	}
}

// TestAllNumbersOfAllOps has all Ns of each op, with no register and with some.
func TestAllNumbersOfAllOps(t *testing.T) {
	for op := range uint32(32) {
		for n := range 32768 {
			holds(t, ins(op, 0, 0, 0, n))
			holds(t, ins(op, 0, 3, 0, n))
			holds(t, ins(op, 15, 0, 0, n))
			holds(t, ins(op, 1, 15, 2, n))
		}
	}
}

func TestTossedWords(t *testing.T) {
	r := rand.New(rand.NewSource(131))
	for range 1000000 {
		holds(t, r.Uint32())
	}
}

// reckonedAll asks of each word, and of each register that it reads, each word ahead, as P13.3 says it.
func reckonedAll(l []uint32) (uint16, uint16) {
	var allReads, allWrites registers
	for k, w := range l {
		reads, writes := reckonedSets(w)
		for r := range 16 {
			written := false
			for _, ahead := range l[:k] {
				_, by := reckonedSets(ahead)
				written = written || by[r]
			}
			allReads[r] = allReads[r] || reads[r] && !written
			allWrites[r] = allWrites[r] || writes[r]
		}
	}
	return allReads.number(), allWrites.number()
}

// tossedWord tells a word of any kind: most are instructions, whose registers are few or many.
func tossedWord(r *rand.Rand) uint32 {
	if r.Intn(8) == 0 {
		return r.Uint32()
	}
	some := []int{2, 4, 16}[r.Intn(3)]
	register := func() uint32 { return uint32(15 - r.Intn(some)) }
	return fitting(uint32(r.Intn(22)), register(), register(), register(), r.Intn(16384))
}

func tossedRow(r *rand.Rand, most int) []uint32 {
	l := make([]uint32, r.Intn(most+1))
	for k := range l {
		l[k] = tossedWord(r)
	}
	return l
}

func TestAllAsReckoned(t *testing.T) {
	r := rand.New(rand.NewSource(132))
	for range 20000 {
		l := tossedRow(r, 9)
		reads, writes := reckonedAll(l)
		all(t, "a tossed row", l, reads, writes)
	}
}

// TestAllOfFewWords has all rows of up to four of some words that read and write the same registers.
func TestAllOfFewWords(t *testing.T) {
	words := []uint32{set(1, 5), move(1, 2), move(2, 1), move(1, 1), add(15, 1, 2), store(2, 15, 0), call(3), calls(2), goTo(15), zero(1, 0), halt, 1}
	var l []uint32
	var grow func()
	grow = func() {
		reads, writes := reckonedAll(l)
		all(t, "a row of few words", l, reads, writes)
		if len(l) == 4 {
			return
		}
		for _, w := range words {
			l = append(l, w)
			grow()
			l = l[:len(l)-1]
		}
	}
	grow()
}
