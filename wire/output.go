package wire

import "pleat/api"

// output is what has been written so far.
type output struct{ bytes []byte }

// object writes all of o but the sum. It relies on o being one that may be: then each number fits its bytes.
func (out *output) object(o api.Object) {
	out.bytes = append(out.bytes, beginning...)
	out.text(o.Name)
	writeAll(out, o.Code, out.number)
	out.count(o.DataAt)
	writeAll(out, o.Data, out.data)
	writeAll(out, o.Symbols, out.symbol)
	writeAll(out, o.Relocs, out.reloc)
}

// writeAll writes how many items there are, and each of them by put.
func writeAll[T any](out *output, items []T, put func(T)) {
	out.count(len(items))
	for _, item := range items {
		put(item)
	}
}

func (out *output) number(n uint32) {
	out.bytes = append(out.bytes, byte(n>>24), byte(n>>16), byte(n>>8), byte(n))
}

func (out *output) count(n int) { out.number(uint32(n)) }

func (out *output) data(n int64) {
	out.number(uint32(uint64(n) >> 32))
	out.number(uint32(n))
}

func (out *output) text(s string) {
	out.count(len(s))
	out.bytes = append(out.bytes, s...)
}

func (out *output) symbol(s api.Symbol) {
	out.text(s.Name)
	out.count(int(s.Kind))
	out.count(s.At)
}

func (out *output) reloc(r api.Reloc) {
	out.count(r.At)
	out.count(r.Sym)
}
