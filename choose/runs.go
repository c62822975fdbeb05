package choose

import (
	"iter"

	"pleat/api"
)

// run is a row of sequences that stand at the same places, each one instruction longer than the one ahead.
type run struct {
	at       []int
	from, to int // the length of the first one, and of the last
}

// runs tells all sequences, in their order, those together that lie behind one another in a run.
func runs(all iter.Seq[api.Repeat]) iter.Seq[run] {
	return func(yield func(run) bool) {
		var r run
		for sequence := range all {
			if r.goesOn(sequence) {
				r.to = sequence.Len
				continue
			}
			if len(r.at) > 0 && !yield(r) {
				return
			}
			r = run{at: sequence.At, from: sequence.Len, to: sequence.Len}
		}
		if len(r.at) > 0 {
			yield(r)
		}
	}
}

// goesOn tells whether next, which is told behind the last one of the run, is one of it, too. As many places, the first of which is the same, are the same: a longer one stands nowhere but where its beginning does; and no length is left out on the way to it.
func (r run) goesOn(next api.Repeat) bool {
	return len(next.At) == len(r.at) && next.At[0] == r.at[0]
}
