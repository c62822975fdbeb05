package gain_test

import (
	"slices"
	"testing"

	"pleat/api"
)

// TestManySpots has more of them than a text has places, and sums that 32 bits don't tell.
func TestManySpots(t *testing.T) {
	const many = 1000000
	for class, less := range map[int8]int{api.None: 0, api.Tail: 1, api.Thunk: 1, api.Dead: 1, api.Spare: 3, 9: 0, -1: 0} {
		l := slices.Repeat(of(class), many)
		for _, n := range []int{1, 2, 3, 4, most} {
			function := n
			switch class {
			case api.None, 9, -1:
				function = 0
			case api.Dead, api.Spare:
				function = n + 1
			}
			pays(t, "one class", n, l, many*(n-less)-function)
		}
		pays(t, "too long", most+1, l, 0)
		pays(t, "too short", 0, l, 0)
		l[many-1].Class = api.Spare
		pays(t, "the last one is spare", 5, l[1:], (many-2)*(5-less)+2-map[int8]int{api.Tail: 5, api.Thunk: 5, api.Dead: 6, api.Spare: 6}[class])
	}
}

// TestAFullText has as many spots as a text has room for.
func TestAFullText(t *testing.T) {
	for _, n := range []int{2, 4, 128, most / 2} {
		count := most / n
		pays(t, "tails", n, slices.Repeat(of(api.Tail), count), most-count-n)
		pays(t, "thunks", n, slices.Repeat(of(api.Thunk), count), most-count-n)
		pays(t, "dead ones", n, slices.Repeat(of(api.Dead), count), most-count-n-1)
		pays(t, "spare ones", n, slices.Repeat(of(api.Spare), count), most-3*count-n-1)
	}
}
