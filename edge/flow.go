package edge

import (
	"slices"

	"pleat/api"
	"pleat/block"
	"pleat/isa"
)

// none is the Op of a word that is no instruction.
const none = int8(-1)

// flow is what the edges of an image hang on.
type flow struct {
	lasts  []api.Ins // of each block its last instruction
	number []int     // of each place at which a block begins that block's number
	known  []int     // the blocks at whose beginnings a leap can end, rising, each once
}

// flowOf tells the flow of img; image.Check's error, if it may not be.
func flowOf(img api.Image) (*flow, api.Errno) {
	blocks, e := block.Blocks(img)
	if e != api.OK {
		return nil, e
	}
	f := &flow{number: make([]int, len(img.Text))}
	for k, b := range blocks {
		f.number[b.From] = k
		f.lasts = append(f.lasts, isa.Decode(img.Text[b.To-1]))
	}
	// Neither refuses what Blocks did not refuse.
	taken, _ := block.Taken(img)
	sites, _ := block.Sites(img)
	for _, place := range slices.Concat(taken, sites) {
		f.known = append(f.known, f.number[place])
	}
	f.known = rising(f.known...)
	return f, api.OK
}

// rising tells the numbers in rising order, each once.
func rising(numbers ...int) []int {
	l := slices.Clone(numbers)
	slices.Sort(l)
	return slices.Compact(l)
}

// leaps tells whether the block k ends by going to a place that only a register knows.
func (f *flow) leaps(k int) bool {
	op := f.lasts[k].Op
	return op == api.Calls || op == api.Go
}

// from tells the blocks to which control can go from the block k, rising, each once. All blocks that leap have one list together: it is only to be read.
func (f *flow) from(k int) []int {
	if f.leaps(k) {
		return f.known
	}
	switch last := f.lasts[k]; last.Op {
	case none, api.Trap, api.Halt:
		return nil
	case api.Jump, api.Call:
		return []int{f.number[last.N]}
	case api.Zero:
		return rising(f.number[last.N], k+1)
	}
	return []int{k + 1}
}

// reached tells of each block whether control can come to it, if it can come to the first one.
func (f *flow) reached(first int) []bool {
	found := make([]bool, len(f.lasts))
	found[first] = true
	// A block is laid on the stack when it is found, so never twice: the stack needs no more room than there are blocks.
	stack := append(make([]int, 0, len(found)), first)
	leapt := false
walk:
	for len(stack) > 0 {
		top := len(stack) - 1
		k := stack[top]
		stack = stack[:top:len(found)]
		if f.leaps(k) {
			// All leaps go to the same blocks, which may be many: one leap is enough to find them.
			if leapt {
				continue walk
			}
			leapt = true
		}
		for _, to := range f.from(k) {
			if !found[to] {
				found[to] = true
				stack = append(stack, to)
			}
		}
	}
	return found
}
