package touch

import (
	"pleat/api"
	"pleat/isa"
)

const (
	none    = int8(-1) // the Op of a word that is no instruction
	linkSet = uint16(1) << api.Link
)

// instruction is one that is asked which registers it touches. One whose Op is none has no field by isa.Has: so its sets are empty.
type instruction api.Ins

func decoded(w uint32) instruction { return instruction(isa.Decode(w)) }

func (i instruction) reads() uint16 {
	_, a, b, _, _ := isa.Has(i.Op)
	return only(a, i.A) | only(b, i.B)
}

func (i instruction) writes() uint16 {
	d, _, _, _, _ := isa.Has(i.Op)
	return only(d, i.D) | only(i.calls(), api.Link)
}

func (i instruction) calls() bool { return i.Op == api.Call || i.Op == api.Calls }

func (i instruction) links() bool { return joined(i.reads, i.writes)&linkSet != 0 }

// only tells the set of that register alone, if it is touched; the empty set, if not.
func only(touched bool, register int8) uint16 {
	if !touched {
		return 0
	}
	return 1 << register
}

// joined tells the set of all that is in one of those that the functions tell.
func joined(sets ...func() uint16) uint16 {
	var all uint16
	for _, set := range sets {
		all |= set()
	}
	return all
}
