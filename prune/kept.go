package prune

import (
	"iter"
	"slices"

	"pleat/api"
)

// kept are the spots that were kept so far. Their places rise, whatever the order of the spots: so a spot is held against its neighbours alone, however many there are.
type kept struct {
	spots  []api.Spot
	places []int
}

// overlaps tells whether a spot at that place overlaps one that was kept.
func (k *kept) overlaps(n, at int) bool {
	for other := range k.beside(at) {
		if overlap(n, at, other) {
			return true
		}
	}
	return false
}

// beside tells the kept places nearest to that one: the last below it, and the first that is not below it. All others are farther away.
func (k *kept) beside(at int) iter.Seq[int] {
	return func(yield func(int) bool) {
		behind := k.from(at)
		if behind > 0 && !yield(k.places[behind-1]) {
			return
		}
		if behind < len(k.places) {
			yield(k.places[behind])
		}
	}
}

func (k *kept) keep(s api.Spot) {
	k.spots = append(k.spots, s)
	k.places = slices.Insert(k.places, k.from(s.At), s.At)
}

// from tells where among the kept places those that are not below that one begin.
func (k *kept) from(at int) int {
	first, _ := slices.BinarySearch(k.places, at)
	return first
}
