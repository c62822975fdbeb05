package image

import "pleat/api"

// output is what has been written so far.
type output struct{ bytes []byte }

// image writes all of x but the sum. It relies on x being one that may be: then each number fits its bytes.
func (out *output) image(x api.Image) {
	for _, c := range beginning {
		out.bytes = append(out.bytes, c)
	}
	out.number(uint32(len(x.Text)))
	for _, w := range x.Text {
		out.number(w)
	}
	out.number(uint32(x.Entry))
	out.number(uint32(len(x.Memory)))
	for _, n := range x.Memory {
		out.number(uint32(uint64(n) >> 32))
		out.number(uint32(n))
	}
}

func (out *output) number(n uint32) {
	out.bytes = append(out.bytes, byte(n>>24), byte(n>>16), byte(n>>8), byte(n))
}
