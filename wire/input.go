package wire

import (
	"math"

	"pleat/api"
)

// mostPlace is the greatest DataAt, At and Sym that is taken; which of them may be, object.Check says.
const mostPlace = math.MaxInt32

// refusal is the error of bytes that are no object's: why, and at which of them.
type refusal struct {
	why api.Errno
	at  int
}

func (r refusal) Error() string { return r.why.Error() }

// input is what is read: all bytes, and the place of the first one that has not been taken yet.
type input struct {
	bytes []byte
	at    int
}

// object takes all there is. Each taker refuses on its own, so what is further left is told first.
func (in *input) object() (o api.Object, err error) {
	if err = in.beginning(); err != nil {
		return o, err
	}
	if o.Name, err = in.text(); err != nil {
		return o, err
	}
	if o.Code, err = takeAll(in, api.MaxText, in.word); err != nil {
		return o, err
	}
	if o.DataAt, err = in.upTo(mostPlace); err != nil {
		return o, err
	}
	if o.Data, err = takeAll(in, api.MaxMemory, in.data); err != nil {
		return o, err
	}
	if o.Symbols, err = takeAll(in, api.MaxSymbols, in.symbol); err != nil {
		return o, err
	}
	if o.Relocs, err = takeAll(in, len(o.Code), in.reloc); err != nil {
		return o, err
	}
	return o, in.end()
}

func (in *input) next() (byte, error) {
	if in.at == len(in.bytes) {
		return 0, refusal{api.ErrBytes, in.at}
	}
	c := in.bytes[in.at]
	in.at++
	return c, nil
}

// take takes a number of as many bytes as T has, the highest first.
func take[T uint32 | uint64](in *input) (T, error) {
	var n T
	// The highest T is shifted out by just as many bytes as T has.
	for left := ^T(0); left != 0; left >>= 8 {
		c, err := in.next()
		if err != nil {
			return 0, err
		}
		n = n<<8 | T(c)
	}
	return n, nil
}

// takeAll takes how many items there are, at most so many, and each of them by one.
func takeAll[T any](in *input, most int, one func() (T, error)) ([]T, error) {
	count, err := in.upTo(most)
	if err != nil {
		return nil, err
	}
	// The list grows with what is there: a count alone, with nothing behind it, takes no room.
	var items []T
	for range count {
		item, err := one()
		if err != nil {
			return nil, err
		}
		items = append(items, item)
	}
	return items, nil
}

// upTo takes a number that is refused, where it begins, if it is above most.
func (in *input) upTo(most int) (int, error) {
	at := in.at
	n, err := take[uint32](in)
	if err != nil {
		return 0, err
	}
	if uint64(n) > uint64(most) {
		return 0, refusal{api.ErrBytes, at}
	}
	return int(n), nil
}

func (in *input) beginning() error {
	for i := range len(beginning) {
		c, err := in.next()
		if err != nil {
			return err
		}
		if c != beginning[i] {
			return refusal{api.ErrBytes, i}
		}
	}
	return nil
}

func (in *input) text() (string, error) {
	s, err := takeAll(in, api.MaxName, in.next)
	return string(s), err
}

func (in *input) word() (uint32, error) { return take[uint32](in) }

func (in *input) data() (int64, error) {
	n, err := take[uint64](in)
	return int64(n), err
}

func (in *input) symbol() (s api.Symbol, err error) {
	if s.Name, err = in.text(); err != nil {
		return s, err
	}
	kind, err := in.upTo(int(api.Wanted))
	if err != nil {
		return s, err
	}
	s.Kind = int8(kind)
	s.At, err = in.upTo(mostPlace)
	return s, err
}

func (in *input) reloc() (r api.Reloc, err error) {
	if r.At, err = in.upTo(mostPlace); err != nil {
		return r, err
	}
	r.Sym, err = in.upTo(mostPlace)
	return r, err
}

// end takes the sum; a byte behind it is told ahead of another sum.
func (in *input) end() error {
	at := in.at
	told, err := take[uint32](in)
	switch {
	case err != nil:
		return err
	case in.at < len(in.bytes):
		return refusal{api.ErrBytes, in.at}
	case told != sum(in.bytes[:at]):
		return refusal{api.ErrSum, at}
	}
	return nil
}
