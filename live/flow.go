package live

import (
	"slices"

	"pleat/api"
	"pleat/edge"
	"pleat/isa"
)

// flow tells of each block of img to which others control can go, as edge.Edges does, but for those that leap: that end in Calls or Go. All of them can go to the same blocks: one list more, the hub, behind those of the blocks, has these, and a block that leaps has the hub's number alone. Told for each leap anew, as Edges would, they could be 2^28 numbers.
func flow(img api.Image, blocks []api.Block) [][]int {
	leaps := leaping(img, blocks)
	// As img may be, so may the one with one leap: Edges does not refuse it.
	edges, _ := edge.Edges(withOneLeap(img, blocks, leaps))
	hub := len(edges)
	edges = append(edges, nil)
	if len(leaps) > 0 {
		edges[hub] = edges[leaps[0]]
	}
	for _, k := range leaps {
		edges[k] = []int{hub}
	}
	return edges
}

// leaping tells the numbers of the blocks that leap, rising.
func leaping(img api.Image, blocks []api.Block) []int {
	var leaps []int
	for k, b := range blocks {
		switch isa.Decode(img.Text[b.To-1]).Op {
		case api.Calls, api.Go:
			leaps = append(leaps, k)
		}
	}
	return leaps
}

// withOneLeap tells img with its first leap alone: the others go to the place 0. There a block begins anyway, and a Call has a return site as a Calls has: so both images have the same blocks, and their leaps can go to the same of them.
func withOneLeap(img api.Image, blocks []api.Block, leaps []int) api.Image {
	img.Text = slices.Clone(img.Text)
	for _, k := range leaps[min(1, len(leaps)):] {
		last := blocks[k].To - 1
		op := api.Jump
		if isa.Decode(img.Text[last]).Op == api.Calls {
			op = api.Call
		}
		img.Text[last], _ = isa.Encode(api.Ins{Op: op})
	}
	return img
}
