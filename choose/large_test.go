package choose_test

import (
	"slices"
	"testing"

	"pleat/api"
)

// filled tells an image of as many words as may be: l again and again, and an end.
func filled(end uint32, l ...uint32) api.Image {
	words := slices.Repeat(l, most/len(l)+1)[:most]
	words[most-1] = end
	return text(words)
}

func spareZero(at int) api.Spot { return spare(at, 0) }

// laid tells so many spots, the first one at 0.
func laid(step, many int, spot func(at int) api.Spot) []api.Spot {
	var l []api.Spot
	for k := range many {
		l = append(l, spot(k*step))
	}
	return l
}

// ofOneWord reckons the best fold of a row of one word, at a spot of which so many instructions are left.
func ofOneWord(size, cost int, spot func(at int) api.Spot) api.Fold {
	var found api.Fold
	for n := cost + 1; n < size; n++ {
		many := size / n
		if f := fold(n, many*(n-cost)-(n+1), dead(0)); byRule(f, found) < 0 {
			found = f
		}
	}
	found.Spots = laid(found.Len, size/found.Len, spot)
	return found
}

func TestOneWordAtTheLimit(t *testing.T) {
	best(t, "one word", filled(halt, out(5, 0)), ofOneWord(most-1, 1, dead))
	best(t, "one word, the link register live", filled(goTo(15), out(5, 0)), ofOneWord(most-1, 3, spareZero))
	folds(t, "one word, two", filled(halt, out(5, 0)), stands(2, upTo(most-2)...), fold(2, most/2-4, laid(2, most/2-1, dead)...))
	folds(t, "one word, all but one", filled(halt, out(5, 0)), stands(most-2, 0, 1), fold(most-2, -2, dead(0)))
	refuses(t, "one word, the end unlike", filled(halt, out(5, 0)), stands(2, upTo(most-1)...), api.ErrFold)
}

// upTo tells all places below the end.
func upTo(end int) []int {
	var l []int
	for at := range end {
		l = append(l, at)
	}
	return l
}

// TestHalvesAtTheLimit has two rows of unlike words as long as may be: millions of sequences stand twice.
func TestHalvesAtTheLimit(t *testing.T) {
	half := outs(0, most/2-1)
	best(t, "halves", text(half, half, row(in(1), halt)), fold(8191, 8188, dead(0), dead(8191)))
	best(t, "halves, the link register live", text(half, half, row(in(1), goTo(15))), fold(8191, 8184, spare(0, 0), spare(8191, 0)))
	noBest(t, "all unlike", text(outs(0, most-1), end()), api.OK)
}

func TestManyBlocksAtTheLimit(t *testing.T) {
	best(t, "two to a go", filled(goTo(15), in(1), goTo(15)), fold(2, 8190, laid(2, 8192, tail)...))
	best(t, "many to a go", filled(goTo(15), append(outs(0, 127), goTo(15))...), fold(128, 128*127-128, laid(128, 128, tail)...))
	best(t, "many to a call", filled(trap, append(outs(0, 127), call(0))...), fold(128, 127*127-128, laid(128, 127, thunk)...))
	noBest(t, "each a block", filled(halt, halt), api.OK)
	noBest(t, "each is alone", filled(halt, zero(1, 0)), api.OK)
	noBest(t, "three, the link register live behind them", filled(goTo(15), append(outs(0, 3), zero(1, 0))...), api.OK)
}

// TestNoRegisterAtTheLimit has long sequences behind which the link register is live, and no other one is left to keep it in.
func TestNoRegisterAtTheLimit(t *testing.T) {
	noBest(t, "all are read behind them", filled(goTo(15), append(outs(0, 45), readsAll()...)...), api.OK)
}
