package choose

import (
	"slices"

	"pleat/api"
	"pleat/class"
	"pleat/gain"
)

// search is a search for the fold of an image that pays most. To tell the spots of a sequence, all of the image is gone through: so they are asked for only where, by what is known of its places, its fold may be Better than each that was found.
type search struct {
	image api.Image
	known known
	found paying
}

func searchOf(img api.Image) *search {
	return &search{image: img, known: knownOf(img.Text)}
}

// look finds the best fold of a run, if it is Better than what was found. The shortest sequence that may have it is asked first: where no register is left to spare for it, none is for the longer ones. Then the one in the midst, as its spots tell of those on both sides.
func (s *search) look(r run) {
	var open []int // lengths
	for n := r.from; n <= r.to; n++ {
		if s.mayBe(n, r.at) {
			open = append(open, n)
		}
	}
	for next := 0; len(open) > 0; next = len(open) / 2 {
		s.ask(api.Repeat{Len: open[next], At: r.at})
		open = slices.Delete(open, next, next+1)
		open = slices.DeleteFunc(open, func(n int) bool { return !s.mayBe(n, r.at) })
	}
}

// ask finds the fold of r, and keeps what its spots tell.
func (s *search) ask(r api.Repeat) {
	// As it is one of the image's sequences, it is not refused.
	spots, _ := class.Spots(s.image, r)
	s.known.learn(r, spots)
	s.found.keep(foldOf(r.Len, spots))
}

// mayBe tells whether the fold of the n instructions that stand at these places may be Better than what was found.
func (s *search) mayBe(n int, at []int) bool {
	return s.found.wants(bound(n, at)) && s.found.wants(s.hope(n, at))
}

// bound tells a fold at least as good as that of the n instructions at these places, by the first and the last of them alone.
func bound(n int, at []int) api.Fold {
	first, last := at[0], at[len(at)-1]
	apart := min(len(at), 1+(last-first)/n)
	return api.Fold{
		Len:   n,
		Spots: []api.Spot{{At: first}},
		Gain:  apart*(n-gain.Cost(api.Tail)) - gain.Size(api.Tail, n),
	}
}

// hope tells a fold at least as good as that of the n instructions at these places, by what is known of them. Places that overlap lie in one stretch, and have one class here: so where some of them are no spot after all, not more of the others of a class lie apart.
func (s *search) hope(n int, at []int) api.Fold {
	var spots []api.Spot
	for _, place := range at {
		if is := s.known.least(n, place); is != api.None {
			spots = append(spots, api.Spot{At: place, Class: is})
		}
	}
	return foldOf(n, spots)
}
