package image

import "pleat/api"

// refusal is what a taker gives up with, and nobody else panics with: why, and at which byte.
type refusal struct {
	why api.Errno
	at  int
}

// takers are closures over the same bytes: each goes on where the one ahead left off, and gives up by a panic with a refusal.
type takers struct {
	place  func() int               // how many bytes have been taken
	next   func() byte              // one byte
	number func() uint32            // four bytes
	memory func() int64             // eight bytes
	count  func(most uint32) uint32 // a number that is refused, where it begins, if it is above most
}

func takersOf(b []byte) takers {
	at := 0
	place := func() int { return at }
	next := func() byte {
		if at == len(b) {
			panic(refusal{api.ErrBytes, at})
		}
		at++
		return b[at-1]
	}
	number := func() uint32 {
		var n uint32
		for range 4 {
			n = n<<8 | uint32(next())
		}
		return n
	}
	memory := func() int64 {
		high := uint64(number()) << 32
		return int64(high | uint64(number()))
	}
	count := func(most uint32) uint32 {
		from := at
		n := number()
		if n > most {
			panic(refusal{api.ErrBytes, from})
		}
		return n
	}
	return takers{place, next, number, memory, count}
}

// taken tells what stands in b, whether it may be or not; if b is no image's bytes, a refusal with its error, and x means nothing.
func taken(b []byte) (x api.Image, wrong refusal) {
	defer func() {
		if stop, gaveUp := recover().(refusal); gaveUp {
			wrong = stop
		}
	}()
	take := takersOf(b)
	take.beginning()
	x = take.image()
	take.end(b)
	return x, wrong
}

func (take takers) beginning() {
	for at, c := range beginning {
		if take.next() != c {
			panic(refusal{api.ErrBytes, at})
		}
	}
}

// image takes all but the four bytes ahead and the sum behind. Its lists grow with what is there: a count alone, with nothing behind it, takes no room.
func (take takers) image() (x api.Image) {
	for range take.count(api.MaxText) {
		x.Text = append(x.Text, take.number())
	}
	x.Entry = int(int32(take.number()))
	for range take.count(api.MaxMemory) {
		x.Memory = append(x.Memory, take.memory())
	}
	return x
}

// end takes the sum; a byte behind it is told ahead of another sum.
func (take takers) end(b []byte) {
	at := take.place()
	told := take.number()
	if behind := take.place(); behind < len(b) {
		panic(refusal{api.ErrBytes, behind})
	}
	if told != Sum(b[:at]) {
		panic(refusal{api.ErrSum, at})
	}
}
