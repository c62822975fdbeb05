package class_test

import (
	"testing"

	"pleat/api"
)

const most = 16384 // words of a text

// made tells an image of as many words as may be, the last of which ends it.
func made(end uint32, of func(at int) uint32) api.Image {
	words := make([]uint32, most)
	for at := range words {
		words[at] = of(at)
	}
	words[most-1] = end
	return text(words...)
}

// every tells the places from the first one on, up to the end, by steps.
func every(from, step, end int) []int {
	var l []int
	for at := from; at < end; at += step {
		l = append(l, at)
	}
	return l
}

// each tells the spot of each place.
func each(at []int, spot func(at int) api.Spot) []api.Spot {
	var l []api.Spot
	for _, k := range at {
		l = append(l, spot(k))
	}
	return l
}

func spareZero(at int) api.Spot { return spare(at, 0) }

func TestOneWordAtTheLimit(t *testing.T) {
	returns := made(goTo(15), func(int) uint32 { return out(5, 0) })
	halts := made(halt, func(int) uint32 { return out(5, 0) })
	is(t, "all of the text", returns, most, tail(0))
	noSpot(t, "one more", returns, most+1, 0, api.ErrArg)
	noSpot(t, "one behind", returns, most, 1, api.ErrArg)
	is(t, "all but the end", returns, most-1, spare(0, 0))
	is(t, "all but the end", halts, most-1, dead(0))
	none(t, "the last three ahead of the end", returns, 3, most-4)
	noSpots(t, "the end is unlike", returns, stands(2, every(0, 1, most-1)...), api.ErrFold)
	noSpots(t, "one behind", returns, stands(2, every(0, 1, most)...), api.ErrFold)
	for _, n := range []int{2, 4, 5, most / 2, most - 2} {
		at := every(0, 1, most-n)
		are(t, "one word", halts, stands(n, at...), each(at, dead)...)
		if n > 3 {
			are(t, "one word", returns, stands(n, at...), each(at, spareZero)...)
		} else {
			are(t, "one word", returns, stands(n, at...))
		}
	}
}

func TestManyBlocksAtTheLimit(t *testing.T) {
	gos := made(goTo(15), func(at int) uint32 { return row(in(1), goTo(15))[at%2] })
	all := every(0, 2, most)
	are(t, "blocks of two words", gos, stands(2, all...), each(all, tail)...)
	are(t, "across them", gos, stands(2, every(1, 2, most-2)...))

	calling := made(trap, func(at int) uint32 { return row(in(1), call(0))[at%2] })
	calls := every(0, 2, most-2)
	are(t, "calls", calling, stands(2, calls...), each(calls, thunk)...)

	labels := made(goTo(15), func(at int) uint32 {
		return row(in(1), in(2), in(1), place(2, at/4%4096*4))[at%4]
	})
	are(t, "blocks of four words, from the first", labels, stands(2, every(0, 4, most)...))
	noSpots(t, "each is alone", made(halt, func(int) uint32 { return zero(1, 0) }), stands(2, every(0, 1, most-1)...), api.ErrFold)

	fives := made(goTo(15), func(at int) uint32 { return row(in(1), in(2), in(3), in(4), goTo(15))[at%5] })
	at := every(0, 5, most-5)
	are(t, "blocks of five words", fives, stands(4, at...), each(at, spareZero)...)
}

// TestTheGreatestPlace has targets and spots where the text ends.
func TestTheGreatestPlace(t *testing.T) {
	x := made(goTo(15), func(int) uint32 { return in(3) })
	x.Text[0] = jump(most - 1)
	is(t, "up to the last label", x, 5, spare(most-6, 0))
	none(t, "across the last label", x, 2, most-2)
	x.Text[0], x.Entry = in(3), most-2
	is(t, "from the Entry on", x, 2, tail(most-2))
	none(t, "across the Entry", x, 3, most-3)
	is(t, "up to the Entry", x, most-2, spare(0, 0))
}
