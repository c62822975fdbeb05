package repeat_test

import (
	"iter"
	"slices"
	"sync"
	"testing"

	"pleat/api"
	"pleat/repeat"
)

// samples tells images with no sequence that stands twice, with one, and with many, at few places and at many.
func samples() []api.Image {
	return []api.Image{
		text("halt"),
		text("in 1/in 2/in 1/in 2/halt"),
		text("set 1 5/out 1 2/set 1 5/out 1 2/set 1 5/out 1 2/halt"),
		text("set 1 5/out 1 2/set 1 5/out 1 2/set 1 5/out 1 2/jump 3"),
		text("in 1/in 1/in 1/in 1/in 1/in 1/in 1/in 1/in 1/halt"),
		text("in 1/in 2/call 0/in 3/in 1/in 2/call 0/in 3/zero 1 9/in 1/in 2/call 0/in 3/halt"),
		entered(6, "in 3/in 2/in 1/halt/in 3/in 2/in 1/halt/in 3/in 2/in 1/in 3/in 2/halt"),
	}
}

func iterated(t *testing.T, x api.Image) iter.Seq[api.Repeat] {
	t.Helper()
	sequences, e := repeat.All(x)
	if e != api.OK {
		t.Fatalf("P18.1: All of %#x refuses: %d", x.Text, e)
	}
	return sequences
}

func TestGoneOverAgain(t *testing.T) {
	for _, x := range samples() {
		want, sequences := plainOf(t, x).all(), iterated(t, x)
		for range 5 {
			if got := slices.Collect(sequences); !alike(got, want) {
				t.Fatalf("P18.1: %#x: gone over again: %v; not %v", x.Text, got, want)
			}
		}
	}
}

// TestGoneOverAtOnce lets one go through all while another one stands at each sequence.
func TestGoneOverAtOnce(t *testing.T) {
	for _, x := range samples() {
		want, sequences := plainOf(t, x).all(), iterated(t, x)
		var outer []api.Repeat
		for r := range sequences {
			outer = append(outer, r)
			if inner := slices.Collect(sequences); !alike(inner, want) {
				t.Fatalf("P18.1: %#x: gone over within itself: %v; not %v", x.Text, inner, want)
			}
		}
		if !alike(outer, want) {
			t.Fatalf("P18.1: %#x: gone over around itself: %v; not %v", x.Text, outer, want)
		}
	}
}

// TestGoneOverByTwo lets one go on behind another one, some sequences later.
func TestGoneOverByTwo(t *testing.T) {
	for _, x := range samples() {
		want, sequences := plainOf(t, x).all(), iterated(t, x)
		for lag := range len(want) + 1 {
			first, stopFirst := iter.Pull(sequences)
			second, stopSecond := iter.Pull(sequences)
			var both [2][]api.Repeat
			take := func(by int, next func() (api.Repeat, bool)) {
				if r, ok := next(); ok {
					both[by] = append(both[by], r)
				}
			}
			for k := range len(want) + lag + 1 {
				take(0, first)
				if k >= lag {
					take(1, second)
				}
			}
			stopFirst()
			stopSecond()
			if !alike(both[0], want) || !alike(both[1], want) {
				t.Fatalf("P18.1: %#x: gone over by two, %d apart: %v and %v; not %v", x.Text, lag, both[0], both[1], want)
			}
		}
	}
}

func TestGoneOverByGoroutines(t *testing.T) {
	for _, x := range samples() {
		want, sequences := plainOf(t, x).all(), iterated(t, x)
		var told [8][]api.Repeat
		var wait sync.WaitGroup
		for k := range told {
			wait.Go(func() {
				for range 20 {
					told[k] = slices.Collect(sequences)
				}
			})
		}
		wait.Wait()
		for _, got := range told {
			if !alike(got, want) {
				t.Fatalf("P18.1: %#x: gone over by several: %v; not %v", x.Text, got, want)
			}
		}
	}
}

// TestLeft leaves an iterator at each of its sequences, behind which nothing is told any more, and goes over it again.
func TestLeft(t *testing.T) {
	for _, x := range samples() {
		want, sequences := plainOf(t, x).all(), iterated(t, x)
		for at := range want {
			var got []api.Repeat
			for r := range sequences {
				if got = append(got, r); len(got) > at {
					break
				}
			}
			if !alike(got, want[:at+1]) {
				t.Fatalf("P18.1: %#x: left at %d: %v; not %v", x.Text, at, got, want[:at+1])
			}
			calls := 0
			sequences(func(api.Repeat) bool { calls++; return calls <= at })
			if calls != at+1 {
				t.Fatalf("P18.1: %#x: left at %d: told %d times", x.Text, at, calls)
			}
			if got := slices.Collect(sequences); !alike(got, want) {
				t.Fatalf("P18.1: %#x: gone over again, behind being left at %d: %v; not %v", x.Text, at, got, want)
			}
		}
	}
}

// TestLeftByAPanic has a loop's own panic go through the iterator, which is as good as new behind that.
func TestLeftByAPanic(t *testing.T) {
	x := samples()[2]
	want, sequences := plainOf(t, x).all(), iterated(t, x)
	leave := func() (met any) {
		defer func() { met = recover() }()
		for r := range sequences {
			panic(r.Len)
		}
		return nil
	}
	if met := leave(); met != want[0].Len {
		t.Errorf("P18.1: a loop that panics at the first sequence: %v", met)
	}
	if got := slices.Collect(sequences); !alike(got, want) {
		t.Errorf("P18.1: gone over again, behind a panic: %v; not %v", got, want)
	}
}

func TestNobodyIsTold(t *testing.T) {
	for _, x := range samples() {
		want, sequences := plainOf(t, x).all(), iterated(t, x)
		if sequences(nil); !alike(slices.Collect(sequences), want) {
			t.Fatalf("R1: %#x: an iterator that was handed nil", x.Text)
		}
	}
}
