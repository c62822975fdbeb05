package live_test

import "testing"

func TestByJumps(t *testing.T) {
	x := text(jump(4), out(3), halt, jump(1), set(9, 1), jump(3))
	behind(t, "far behind, to and fro", x, of(3), 0, 0, of(3), of(3), of(3))
	blocks(t, "far behind, to and fro", x, row(of(3), of(3), of(3), of(3)), row(of(3), 0, of(3), of(3)))
	behind(t, "written on the way", text(jump(4), out(3), halt, jump(1), set(3, 1), jump(3)), 0, 0, 0, of(3), of(3), of(3))
	behind(t, "read on the way, ahead of being written", text(jump(4), out(3), halt, jump(1), move(3, 3), jump(3)), of(3), 0, 0, of(3), of(3), of(3))
	behind(t, "the blocks that a label parts", text(set(9, 1), set(8, 1), out(9), zero(8, 1), halt), of(9), of(8, 9), of(8, 9), of(9), 0)
	behind(t, "the blocks that the Entry parts", entered(1, set(9, 1), out(9), halt), of(9), 0, 0)
}

func TestByZero(t *testing.T) {
	behind(t, "read where it goes", text(zero(1, 2), halt, out(3), halt), of(3), 0, 0, 0)
	behind(t, "read where it falls", text(zero(1, 3), out(3), halt, halt), of(3), 0, 0, 0)
	behind(t, "read on either way", text(zero(1, 3), out(3), halt, out(4), halt), of(3, 4), 0, 0, 0, 0)
	behind(t, "both ways the same", text(zero(1, 1), out(3), halt), of(3), 0, 0)
	x := text(zero(1, 4), set(3, 1), out(3), halt, out(3), halt)
	behind(t, "written ahead of being read where it falls, read where it goes", x, of(3), of(3), 0, 0, 0, 0)
	blocks(t, "written ahead of being read where it falls, read where it goes", x, row(of(1, 3), 0, of(3)), row(of(3), 0, 0))
	x = text(zero(1, 3), out(3), halt, set(3, 1), out(3), halt)
	behind(t, "read where it falls, written ahead where it goes", x, of(3), 0, 0, of(3), 0, 0)
	behind(t, "written ahead on both ways", text(zero(1, 4), in(3), out(3), halt, set(3, 1), out(3), halt), 0, of(3), 0, 0, of(3), 0, 0)
	behind(t, "its own register, read once more", text(zero(1, 2), halt, out(1), halt), of(1), 0, 0, 0)
	behind(t, "far behind, by one of each way", text(zero(1, 3), zero(2, 5), halt, zero(4, 2), halt, zero(5, 2), jump(7), out(6), halt),
		of(2, 4, 5, 6), of(5, 6), 0, 0, 0, of(6), of(6), 0, 0)
}

func TestByCalls(t *testing.T) {
	// The function does not read 3, what stands behind the call does.
	x := text(set(3, 1), call(4), out(3), halt, set(4, 1), goTo(15))
	behind(t, "behind the call, by the go of the function", x, of(3), of(3, 15), 0, 0, of(3, 15), of(3))
	blocks(t, "behind the call, by the go of the function", x, row(0, of(3), of(3, 15)), row(of(3, 15), 0, of(3)))
	behind(t, "in the function", text(set(3, 1), call(3), halt, out(3), goTo(15)), of(3), of(3, 15), 0, link, 0)
	behind(t, "written by the function", text(set(3, 1), call(4), out(3), halt, in(3), goTo(15)), 0, link, 0, 0, of(3, 15), of(3))
	behind(t, "a function that does not come back", text(set(3, 1), call(4), out(3), halt, set(4, 1), halt), 0, 0, 0, 0, 0, 0)
	behind(t, "behind another call of the function", text(call(4), halt, call(4), out(3), set(4, 1), goTo(15)), of(3, 15), 0, of(3, 15), of(3, 15), of(3, 15), of(3, 15))
	behind(t, "a function that calls another one", text(call(2), halt, move(5, 15), call(6), out(7), goTo(5), out(6), goTo(15)),
		of(6, 7, 15), 0, of(5, 6, 7), of(5, 6, 7, 15), of(5, 7), of(5, 7), of(5, 7, 15), of(5, 7))
}

// TestByLeaps has what is read at each place to which a register can lead, by Go and by Calls.
func TestByLeaps(t *testing.T) {
	for name, leap := range map[string]uint32{"go 1": goTo(1), "go 15": goTo(15)} {
		own := of(1)
		if leap == goTo(15) {
			own = link
		}
		behind(t, name+": no place", text(out(3), leap), own, 0)
		behind(t, name+": labels that are no place to go to", entered(3, out(3), zero(3, 0), leap, out(4), jump(5), halt), of(3)|own, of(3)|own, 0, 0, 0, 0)
		x := text(place(8, 4), place(9, 6), leap, halt, out(3), halt, out(4), halt, out(5), halt)
		behind(t, name+": taken labels", x, of(3, 4)|own, of(3, 4)|own, of(3, 4), 0, 0, 0, 0, 0, 0, 0)
		x = text(call(4), out(3), call(4), out(4), leap)
		behind(t, name+": return sites", x, of(3, 4)|own, of(3, 4)|own&^link, of(3, 4)|own, of(3, 4)|own, of(3, 4)|own)
		x = text(calls(6), out(3), calls(7), out(4), leap)
		behind(t, name+": return sites of calls", x, of(3, 4, 7)|own, of(3, 4, 7)|own&^link, of(3, 4, 7)|own, of(3, 4, 7)|own, of(3, 4, 7)|own)
		x = text(leap, halt, place(2, 4), halt, out(3), halt)
		behind(t, name+": a label that is taken where nobody comes", x, of(3), 0, 0, 0, 0, 0)
		behind(t, name+": a leap to which nobody comes", text(halt, leap, place(2, 0), out(3), halt), 0, 0, of(3), 0, 0)
	}
	x := text(place(1, 4), calls(1), out(3), halt, out(4), goTo(15))
	behind(t, "calls: the taken label and the return site", x, of(1, 3, 4), of(3, 4, 15), 0, 0, of(3, 4, 15), of(3, 4, 15))
	blocks(t, "calls: the taken label and the return site", x, row(of(3, 4), of(3), of(3, 4, 15)), row(of(3, 4, 15), 0, of(3, 4, 15)))
	behind(t, "calls: its own return site alone", text(set(3, 1), calls(1), out(3), halt), of(1, 3), of(3), 0, 0)
	behind(t, "calls: each other one's return site", text(calls(1), halt, calls(2), out(3), jump(1), halt), of(3), 0, of(3), 0, 0, 0)
	x = text(calls(1), jump(3), calls(2), out(3), halt)
	behind(t, "calls: a return site from which control goes on", x, of(3), of(3), of(3), 0, 0)
	// Each leap goes to all of them, and what is live there goes on to all others that leap.
	x = text(place(9, 8), goTo(4), calls(5), goTo(6), halt, jump(7), out(8), halt, calls(7), out(9), trap)
	behind(t, "many leaps", x, of(4, 6, 7, 9), of(6, 7, 9), of(6, 7, 9), of(6, 7, 9), 0, 0, 0, 0, of(6, 7, 9), 0, 0)
}

func TestTheLinkRegister(t *testing.T) {
	behind(t, "a call writes it", text(set(15, 1), call(3), halt, halt), 0, 0, 0, 0)
	behind(t, "a call writes it, the function reads it", text(set(15, 1), call(3), halt, goTo(15)), 0, link, 0, 0)
	behind(t, "a calls writes it", text(set(15, 1), calls(1), store(0, 15, 0), halt), of(0, 1), of(0, 15), 0, 0)
	behind(t, "it is kept in another one", text(move(2, 15), call(5), move(15, 2), goTo(15), halt, goTo(15)), of(2), of(2, 15), of(2, 15), of(2), 0, of(2))
	behind(t, "it is read behind the call, where it was written", text(call(3), move(2, 15), halt, goTo(15)), link, 0, 0, link)
	behind(t, "a function goes on to another one", text(call(2), halt, jump(4), halt, goTo(15)), link, 0, link, 0, 0)
	behind(t, "a call of a halt, its own return site", text(call(1), halt), 0, 0)
	behind(t, "a go of it in a loop", text(call(1), out(2), zero(3, 1), goTo(15)), of(2, 3, 15), of(2, 3, 15), of(2, 3, 15), of(2, 3, 15))
}

func TestLoops(t *testing.T) {
	x := text(set(1, 3), out(1), zero(1, 4), jump(1), halt)
	behind(t, "a loop that reads what was set ahead", x, of(1), of(1), of(1), of(1), 0)
	x = text(out(1), zero(2, 4), move(1, 3), jump(0), halt)
	behind(t, "what a loop reads when it goes round", x, of(2, 3), of(2, 3), of(1, 2, 3), of(1, 2, 3), 0)
	x = text(zero(1, 2), halt, zero(2, 4), halt, zero(3, 6), halt, zero(4, 0), halt)
	behind(t, "a loop each of whose blocks reads another one", x, of(1, 2, 3, 4), 0, of(1, 2, 3, 4), 0, of(1, 2, 3, 4), 0, of(1, 2, 3, 4), 0)
	x = text(move(1, 2), jump(3), halt, move(2, 3), jump(6), halt, move(3, 1), zero(0, 0), halt)
	behind(t, "a loop each of whose blocks reads and writes another one", x, of(0, 1, 3), of(0, 1, 3), 0, of(0, 1, 2), of(0, 1, 2), 0, of(0, 2, 3), of(0, 2, 3), 0)
	blocks(t, "a loop each of whose blocks reads and writes another one", x, row(of(0, 2, 3), 0, of(0, 1, 3), 0, of(0, 1, 2), 0), row(of(0, 1, 3), 0, of(0, 1, 2), 0, of(0, 2, 3), 0))
}

func TestLoopsWithinLoops(t *testing.T) {
	x := text(zero(1, 6), zero(2, 5), move(3, 4), jump(1), halt, jump(0), out(3), halt)
	behind(t, "one in another one", x, of(1, 2, 3, 4), of(1, 2, 3, 4), of(1, 2, 3, 4), of(1, 2, 3, 4), 0, of(1, 2, 3, 4), 0, 0)
	// Each part reads something else, and two of them write what others read: so the heads' sets grow by what is near, and again by what is far.
	x = text(zero(1, 8), zero(2, 5), out(3), set(6, 1), jump(1), out(4), in(3), jump(0), out(5), out(6), halt)
	all := of(1, 2, 3, 4, 5, 6)
	behind(t, "one in another one, each part of which reads", x, all, all, all&^of(6), all, all, all&^of(3), all, all, of(6), 0, 0)
	blocks(t, "one in another one, each part of which reads", x, row(all, all, all&^of(6), all&^of(3), of(5, 6)), row(all, all, all, all, 0))
	x = text(zero(0, 3), move(1, 2), jump(0), zero(0, 6), move(2, 3), jump(0), out(1), halt)
	behind(t, "two with one head", x, of(0, 1, 2, 3), of(0, 1, 2, 3), of(0, 1, 2, 3), of(0, 1, 3), of(0, 1, 2, 3), of(0, 1, 2, 3), 0, 0)
	// Three heads, one in the other; only the innermost reads 5, only behind the outermost 6 is read.
	x = text(zero(1, 8), zero(2, 0), zero(3, 1), zero(4, 2), out(5), set(5, 1), jump(3), halt, out(6), halt)
	all = of(1, 2, 3, 4, 5, 6)
	behind(t, "three", x, all, all, all, all, all&^of(5), all, all, 0, 0, 0)
}

// TestLeast has loops that go round for ever and read nothing of a register: it is dead there, though sets that hold it would fulfil the equations, too.
func TestLeast(t *testing.T) {
	behind(t, "a jump to itself", text(out(3), jump(1)), 0, 0)
	behind(t, "a loop of three blocks", text(out(3), jump(2), jump(3), jump(1)), 0, 0, 0, 0)
	behind(t, "a loop that reads another one", text(out(3), zero(4, 1), jump(1)), of(4), of(4), of(4))
	behind(t, "a loop within a loop", text(zero(1, 0), zero(2, 0), zero(1, 1), jump(0)), of(1, 2), of(1, 2), of(1, 2), of(1, 2))
	behind(t, "a loop that writes", text(set(3, 1), in(4), jump(0)), 0, 0, 0)
	behind(t, "a call to itself", text(call(0), out(3), halt), 0, 0, 0)
	behind(t, "leaps to each other", text(place(1, 0), place(2, 2), goTo(1)), of(1), of(1), of(1))
	behind(t, "a function that calls itself", text(call(2), out(4), call(2), out(3), halt), 0, 0, 0, 0, 0)
	behind(t, "a loop ahead of what reads, which it never leaves", text(jump(0), out(3), goTo(3)), 0, of(3), 0)
}

// TestWhereNobodyComes has blocks that no control can reach: their sets are told as all others.
func TestWhereNobodyComes(t *testing.T) {
	x := text(halt, out(3), set(4, 1), out(4), out(5), halt)
	behind(t, "behind a halt", x, 0, of(5), of(4, 5), of(5), 0, 0)
	blocks(t, "behind a halt", x, row(0, of(3, 5)), row(0, 0))
	x = text(jump(2), out(3), out(4), halt)
	behind(t, "a block that falls into one that is reached", x, of(4), of(4), 0, 0)
	blocks(t, "a block that falls into one that is reached", x, row(of(4), of(3, 4), of(4)), row(of(4), of(4), 0))
	x = entered(3, zero(1, 2), jump(0), goTo(2), halt)
	behind(t, "all but the last", x, of(1, 2), of(1, 2), 0, 0)
	behind(t, "a return site where nobody comes", text(goTo(1), call(0), out(3), halt), of(3), of(1, 3), 0, 0)
	behind(t, "behind no instruction", text(1, out(3), trap, out(4), goTo(5)), 0, 0, 0, of(5), 0)
}

func TestManyBlocks(t *testing.T) {
	x := text(place(1, 7), call(9), out(2), zero(3, 6), jump(3), trap, out(4), goTo(5), 1, out(6), goTo(15))
	// Behind a leap: what the blocks at 2 (2, 3 and all from 3 on) and 7 (5 and all behind a leap) have.
	leap := of(2, 3, 4, 5)
	behind(t, "blocks of all kinds", x,
		leap|of(6), leap|of(6, 15), leap, leap, leap, 0, leap, leap, 0, leap|link, leap)
	in, out := row(leap|of(6), leap, leap, leap, 0, leap, leap, 0, leap|of(6, 15)), row(leap|of(6, 15), leap, leap, leap, 0, leap, leap, 0, leap)
	blocks(t, "blocks of all kinds", x, in, out)
}
