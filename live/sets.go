package live

import (
	"pleat/api"
	"pleat/edge"
	"pleat/touch"
)

// sets are those of the blocks, and of the hub behind them, which reads and writes nothing.
type sets struct {
	reads, writes []uint16
	in, out       []uint16
	back          [][]int // of each the numbers of those from which control can go to it
}

// waiting are the numbers of those whose sets may still grow.
type waiting map[int]struct{}

func (w waiting) put(k int) { w[k] = struct{}{} }

func (w waiting) has(k int) bool {
	_, is := w[k]
	return is
}

// leastSets tells in and out of each block of img, which may be.
func leastSets(img api.Image, blocks []api.Block) (in, out []uint16) {
	s := emptySets(edge.Back(flow(img, blocks)))
	for k, b := range blocks {
		s.reads[k], s.writes[k] = touch.All(img.Text[b.From:b.To])
	}
	s.grow()
	hub := len(blocks)
	return s.in[:hub:hub], s.out[:hub:hub]
}

func emptySets(back [][]int) *sets {
	empty := func() []uint16 { return make([]uint16, len(back)) }
	return &sets{reads: empty(), writes: empty(), in: empty(), out: empty(), back: back}
}

// grow makes all sets as large as they have to be, from empty ones on, and so the least ones: it adds nothing that has not to be there.
func (s *sets) grow() {
	wait := waiting{}
	for k := range s.back {
		wait.put(k)
	}
	for len(wait) > 0 {
		wait = s.goThrough(wait)
	}
}

// goThrough takes out all that wait, and tells which wait then. These lie in a map of their own: nothing may be put into one that is ranged over, and a range goes over all the room that a map once needed, however few lie there.
func (s *sets) goThrough(wait waiting) waiting {
	anew := waiting{}
	for k := range wait {
		delete(wait, k)
		s.in[k] = s.reads[k] | s.out[k]&^s.writes[k]
		for _, from := range s.back[k] {
			if s.in[k]&^s.out[from] == 0 {
				continue
			}
			s.out[from] |= s.in[k]
			// One that has not been taken out yet will be, and finds its out grown.
			if !wait.has(from) {
				anew.put(from)
			}
		}
	}
	return anew
}
