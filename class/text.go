package class

import (
	"math/bits"
	"slices"

	"pleat/api"
	"pleat/block"
	"pleat/live"
	"pleat/touch"
)

const (
	linkSet   = uint16(1) << api.Link
	spareSize = 3 // how many words stand at a Spare spot: a sequence of no more gets no shorter by it
)

// text is what an image is asked for its spots.
type text struct {
	image  api.Image
	blocks []api.Block
}

// textOf tells the text of img; image.Check's error, if it may not be.
func textOf(img api.Image) (*text, api.Errno) {
	blocks, e := block.Blocks(img)
	if e != api.OK {
		return nil, e
	}
	return &text{image: img, blocks: blocks}, api.OK
}

// has tells whether a sequence may have n instructions, and all of these from at on are places of the text.
func (t *text) has(n, at int) bool {
	return n >= api.MinLen && at >= 0 && n <= len(t.image.Text)-at
}

// from tells the n words from at on.
func (t *text) from(at, n int) []uint32 { return t.image.Text[at : at+n] }

// isOne tells whether r has places, which rise, and one sequence stands at all of them.
func (t *text) isOne(r api.Repeat) bool {
	if len(r.At) == 0 || !t.has(r.Len, r.At[0]) {
		return false
	}
	first := t.from(r.At[0], r.Len)
	for ahead, at := range r.At[1:] {
		if at <= r.At[ahead] || !t.has(r.Len, at) || !slices.Equal(t.from(at, r.Len), first) {
			return false
		}
	}
	// A word that is alone is the same as itself only, not as one elsewhere.
	return len(r.At) == 1 || !slices.ContainsFunc(first, touch.Alone)
}

// spots tells the spots among these places, in order, at all of which the same n words stand.
func (t *text) spots(n int, at ...int) []api.Spot {
	var spots []api.Spot
	classes := t.classes(t.from(at[0], n))
places:
	for _, place := range at {
		if !t.inOneBlock(n, place) {
			continue
		}
		for _, is := range classes {
			if spot, yes := is(place); yes {
				spots = append(spots, spot)
				continue places
			}
		}
	}
	return spots
}

// inOneBlock tells whether the n places from at on lie in one block.
func (t *text) inOneBlock(n, at int) bool {
	k := block.Of(t.blocks, at)
	return n <= t.blocks[k].To-at
}

// classes tells a row of closures, one for each class, in the order in which they are asked: each tells a spot of that class at a place where l stands, and whether that is what l is there.
func (t *text) classes(l []uint32) []func(at int) (api.Spot, bool) {
	kind, last := Kind(l), len(l)-1
	reads, writes := touch.All(l)
	var behind []uint16
	if kind == api.Dead {
		// It takes longer than all else, and no other kind hangs on it. As there are blocks, it is not refused.
		behind, _ = live.Behind(t.image)
	}
	return []func(at int) (api.Spot, bool){
		func(at int) (api.Spot, bool) {
			return api.Spot{At: at, Class: api.Tail}, kind == api.Tail
		},
		func(at int) (api.Spot, bool) {
			return api.Spot{At: at, Class: api.Thunk}, kind == api.Thunk
		},
		func(at int) (api.Spot, bool) {
			return api.Spot{At: at, Class: api.Dead}, kind == api.Dead && behind[at+last]&linkSet == 0
		},
		func(at int) (api.Spot, bool) {
			if kind != api.Dead || len(l) <= spareSize {
				return api.Spot{}, false
			}
			reg := leastOutside(behind[at+last] | reads | writes)
			return api.Spot{At: at, Class: api.Spare, Reg: reg}, reg < api.Link
		},
	}
}

// leastOutside tells the least register that is not in set; one behind all registers, if each is.
func leastOutside(set uint16) int8 { return int8(bits.TrailingZeros16(^set)) }
