package suffix

// sortBy sorts places by order; spare has room for half of them at least. It asks order at most n b times of n places, 2^b being the least power of two that n is not above: the library's sorts promise no such bound, and Most is one. Of places that are sorted it asks only neighbours.
func sortBy(places, spare []int, order func(i, k int) int) {
	if len(places) < 2 {
		return
	}
	half := len(places) / 2
	left, right := places[:half], places[half:]
	sortBy(left, spare, order)
	sortBy(right, spare, order)
	// Most places are where they belong behind the first rounds.
	if order(left[half-1], right[0]) <= 0 {
		return
	}
	merge(places, spare[:copy(spare, left)], right, order)
}

// merge fills places with left and right, both sorted. right is the end of places: as left is elsewhere, what is written stays behind what is still to be taken of right.
func merge(places, left, right []int, order func(i, k int) int) {
	for at := range places {
		if len(left) == 0 {
			return
		}
		if len(right) > 0 && order(right[0], left[0]) < 0 {
			places[at], right = right[0], right[1:]
		} else {
			places[at], left = left[0], left[1:]
		}
	}
}
