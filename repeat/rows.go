package repeat

import (
	"slices"

	"pleat/api"
	"pleat/block"
	"pleat/common"
	"pleat/number"
	"pleat/suffix"
)

// rows are the places of a text by the suffixes of its numbers: those at which one sequence stands lie side by side in array. Nothing writes to them once they are made, so that several may go over one iterator at once.
type rows struct {
	array, rank []int
	prefixes    []int // of each place of array: what its suffix has in common with the one ahead
	ends        []int // of each place of the text: where its block ends
}

// rowsOf tells the rows of img; image.Check's error, if it may not be.
func rowsOf(img api.Image) (*rows, api.Errno) {
	numbers, e := number.Of(img)
	if e != api.OK {
		return nil, e
	}
	blocks, e := block.Blocks(img)
	if e != api.OK {
		return nil, e
	}
	sorted := suffix.Of(numbers)
	prefixes, _, e := common.Prefixes(numbers, sorted.Array)
	if e != api.OK {
		return nil, e
	}
	return &rows{array: sorted.Array, rank: sorted.Rank, prefixes: prefixes, ends: endsOf(blocks)}, api.OK
}

// endsOf tells of each place of a text where its block ends. The list is kept for as long as an iterator is: it is cut so that nothing can be put behind it.
func endsOf(blocks []api.Block) []int {
	var ends []int
	for _, b := range blocks {
		ends = append(ends, slices.Repeat([]int{b.To}, b.To-b.From)...)
	}
	return ends[:len(ends):len(ends)]
}

// hasRoom tells whether length places from at on lie within one block of the text.
func (r *rows) hasRoom(at, length int) bool {
	return 0 <= at && at < len(r.ends) && length <= r.ends[at]-at
}

// places tells where the sequence stands that the suffix at from in array begins with, rising; none, if no suffix of the row has room for that length.
func (r *rows) places(from, length int) []int {
	from, to, _ := common.Group(r.prefixes, from, length)
	return gathered(r.array[from:to], func(at int) bool { return r.hasRoom(at, length) })
}

// gathered tells those of a row that the text has room at, rising.
func gathered(row []int, hasRoom func(at int) bool) []int {
	all := make([]int, 0, len(row))
	for _, at := range row {
		if hasRoom(at) {
			all = append(all, at)
		}
	}
	slices.Sort(all)
	return all
}

// each tells all sequences that stand at two places or more, in their order, until tell is false.
func (r *rows) each(tell func(api.Repeat) bool) {
	// An iterator is handed out, and no call panics, whatever it is given.
	if tell == nil {
		return
	}
	for from, inCommon := range r.prefixes {
		// What this suffix has in common with the one ahead has been gone through there.
		for length := max(api.MinLen, inCommon+1); ; length++ {
			at := r.places(from, length)
			if len(at) < 2 {
				// What goes on from it stands at no other places than it does.
				break
			}
			if !tell(api.Repeat{Len: length, At: at}) {
				return
			}
		}
	}
}
