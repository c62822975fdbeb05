package choose

import (
	"container/heap"

	"pleat/api"
)

// paying is a heap of folds that pay: the one at its top is Better than every other one.
type paying []api.Fold

func (p paying) Len() int { return len(p) }

func (p paying) Less(i, k int) bool { return Better(p[i], p[k]) }

func (p paying) Swap(i, k int) { p[i], p[k] = p[k], p[i] }

func (p *paying) Push(fold any) { *p = append(*p, fold.(api.Fold)) }

func (p *paying) Pop() any {
	last := len(*p) - 1
	fold := (*p)[last]
	*p = (*p)[:last]
	return fold
}

// wants tells whether f pays, and is Better than every fold of the heap.
func (p paying) wants(f api.Fold) bool {
	return f.Gain > 0 && (len(p) == 0 || Better(f, p[0]))
}

// keep puts f into the heap, if it pays.
func (p *paying) keep(f api.Fold) {
	if f.Gain > 0 {
		heap.Push(p, f)
	}
}

// best takes the top away from the heap; no fold and false, if it has none.
func (p *paying) best() (api.Fold, bool) {
	if len(*p) == 0 {
		return api.Fold{}, false
	}
	return heap.Pop(p).(api.Fold), true
}
