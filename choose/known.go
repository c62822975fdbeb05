package choose

import (
	"pleat/api"
	"pleat/class"
	"pleat/gain"
)

// What is known of the link register behind a place.
const (
	unknown int8 = iota
	dead
	live
)

// known is what the spots that were asked for tell of others.
//
// A stretch is a row of words up to the first one that is alone, or ends a block. The link register is dead ahead of each of them, or live ahead of each: control goes from one to the next, and none but the last touches it. A sequence that stands twice and is neither Tail nor Thunk lies in one stretch, and so does the word behind it.
type known struct {
	kinds     []int8 // of each place the kind of its word: that of the sequences which end there
	stretches []int  // of each place the first one of its stretch
	links     []int8 // of each first place of a stretch what is known of the link register
	spares    []int  // of each place how many instructions from there on may leave a register to spare: where there is none for some of them, there is none for more
}

func knownOf(text []uint32) known {
	size := len(text)
	k := known{kinds: make([]int8, size), stretches: make([]int, size), links: make([]int8, size), spares: make([]int, size)}
	for at := range text {
		k.kinds[at] = class.Kind(text[at : at+1])
		k.stretches[at] = at
		if at > 0 && k.kinds[at-1] == api.Dead {
			k.stretches[at] = k.stretches[at-1]
		}
		k.spares[at] = size
	}
	return k
}

// least tells, of the classes that a sequence of n instructions may have at a place, the one that costs least.
func (k known) least(n, at int) int8 {
	if kind := k.kinds[at+n-1]; kind != api.Dead {
		return kind
	}
	switch {
	case k.links[k.stretches[at]] != live:
		return api.Dead
	case gain.Cost(api.Spare) < n && n <= k.spares[at]:
		return api.Spare
	}
	return api.None
}

// learn keeps what the spots of r tell.
func (k known) learn(r api.Repeat, spots []api.Spot) {
	if k.kinds[r.At[0]+r.Len-1] != api.Dead {
		return
	}
	for _, at := range r.At {
		is := api.None
		if len(spots) > 0 && spots[0].At == at {
			is, spots = spots[0].Class, spots[1:]
		}
		link := live
		if is == api.Dead {
			link = dead
		}
		k.links[k.stretches[at]] = link
		if is == api.None && r.Len > gain.Cost(api.Spare) {
			k.spares[at] = min(k.spares[at], r.Len-1)
		}
	}
}
