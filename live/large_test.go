package live_test

import (
	"slices"
	"testing"

	"pleat/api"
	"pleat/live"
)

const most = 16384 // words of a text

// holdsAll holds Behind of x against one set a place, and Blocks against one in and one out a block.
func holdsAll(t *testing.T, what string, x api.Image, wantBehind, wantIn, wantOut []uint16) {
	t.Helper()
	l, e := live.Behind(x)
	if e != api.OK || !slices.Equal(l, wantBehind) {
		t.Errorf("P14.2: %s: Behind tells %d sets, %d; %v .., not %v ..", what, len(l), e, l[:min(len(l), 9)], wantBehind[:9])
	}
	in, out, e := live.Blocks(x)
	if e != api.OK || !slices.Equal(in, wantIn) || !slices.Equal(out, wantOut) {
		t.Errorf("P14.1: %s: Blocks tells %d and %d sets, %d; %v .., %v ..", what, len(in), len(out), e, in[:min(len(in), 9)], out[:min(len(out), 9)])
	}
}

// TestLeapsAtTheLimit has a text of nothing but leaps, each of which can go nearly everywhere.
func TestLeapsAtTheLimit(t *testing.T) {
	words := slices.Repeat([]uint32{calls(1)}, most)
	words[most-2], words[most-1] = out(7), goTo(15)
	leap := of(1, 7, 15)
	l, in, o := slices.Repeat(row(leap), most), slices.Repeat(row(of(1, 7)), most-1), slices.Repeat(row(leap), most-1)
	in[most-2] = leap
	holdsAll(t, "calls of a register", text(words...), l, in, o)

	words = slices.Repeat([]uint32{goTo(1)}, most)
	words[0], words[1] = place(1, 1), place(2, most-1)
	words[most-1] = goTo(3)
	l, in, o = slices.Repeat(row(of(1, 3)), most), slices.Repeat(row(of(1, 3)), most-1), slices.Repeat(row(of(1, 3)), most-1)
	in[0] = of(3)
	holdsAll(t, "gos", text(words...), l, in, o)
}

// TestChainsAtTheLimit has as many blocks as there can be, one behind the other, so that what is read at the end has the longest way.
func TestChainsAtTheLimit(t *testing.T) {
	words := make([]uint32, most)
	for p := range words {
		words[p] = zero(1, max(p-1, 0))
	}
	words[most-1] = goTo(2)
	l, in, o := slices.Repeat(row(of(1, 2)), most), slices.Repeat(row(of(1, 2)), most), slices.Repeat(row(of(1, 2)), most)
	l[most-1], in[most-1], o[most-1] = 0, of(2), 0
	holdsAll(t, "zeros", text(words...), l, in, o)

	for p := range words {
		words[p] = jump(max(p-1, 0))
	}
	words[0], words[1] = out(3), halt
	words[2] = jump(0)
	l, in, o = slices.Repeat(row(of(3)), most), slices.Repeat(row(of(3)), most-1), slices.Repeat(row(of(3)), most-1)
	l[0], l[1], o[0] = 0, 0, 0
	holdsAll(t, "jumps back", entered(most-1, words...), l, in, o)
}

// TestGrowingAtTheLimit has a great loop in which one register after the other is read, and each of whose blocks a leap can go to: so all sets grow many times.
func TestGrowingAtTheLimit(t *testing.T) {
	half := most / 2
	words := make([]uint32, most)
	for p := range half - 1 {
		words[p] = place(14, half+p)
		words[half+p] = zero(uint32(14*p/half), half+p+1)
	}
	words[half-1], words[most-1] = goTo(15), goTo(13)
	all := uint16(1<<14 - 1)
	l, in, o := slices.Repeat(row(all), most), slices.Repeat(row(all), half+1), slices.Repeat(row(all), half+1)
	for p := range half - 1 {
		l[p] = all | link
	}
	in[0] = all | link
	holdsAll(t, "a great loop", text(words...), l, in, o)
}
