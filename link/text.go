package link

import (
	"pleat/api"
	"pleat/isa"
	"pleat/symbol"
)

// trap is the word of a Trap, which stands behind each object's code.
const trap = 0

// word is one of the text that is being made.
type word uint32

// patch tells what becomes of a word, by a number of places or by a place.
type patch func(w word, n int) word

// text is what has been laid so far.
type text []uint32

// join tells the text of all objects as laid out, each word aimed at where its target is laid. It relies on objects that resolve, and on a place of the text for each of their Traps.
func join(l []api.Object, bases []int, defs [][]symbol.Def) []uint32 {
	var t text
	for number, base := range layout(l) {
		o := l[number]
		t = append(append(t, o.Code...), trap)
		for k := range o.Code {
			t.patch(base+k, word.moved, base)
		}
		// These words were moved, too; their symbols' places count instead.
		for _, r := range o.Relocs {
			t.patch(base+r.At, word.aimed, placeOf(defs[number][r.Sym], bases))
		}
	}
	return t
}

func (t text) patch(at int, how patch, n int) { t[at] = uint32(how(word(t[at]), n)) }

// moved tells w with its target so many places further on; w itself, if it has none.
func (w word) moved(by int) word {
	target, has := isa.Target(uint32(w))
	if !has {
		return w
	}
	return w.aimed(target + by)
}

// aimed tells w, which has a target, with that place as its target.
func (w word) aimed(place int) word {
	// No target lies behind its object's Trap, which has a place: so nothing is refused here.
	there, _ := isa.Aim(uint32(w), place)
	return word(there)
}
