package list

import (
	"strings"

	"pleat/api"
)

var kinds = [...]string{api.Local: "local", api.Global: "global", api.Weak: "weak", api.Wanted: "wanted"}

// output is what has been told so far.
type output struct{ strings.Builder }

// all tells the parts, one behind the other.
func (out *output) all(between string, parts ...string) {
	for k, part := range parts {
		if k > 0 {
			out.WriteString(between)
		}
		out.WriteString(part)
	}
}

func (out *output) line(words ...string) {
	out.all(blank, words...)
	out.WriteByte('\n')
}

// object tells all of o. It relies on o being one that may be.
func (out *output) object(o api.Object) {
	out.line("object", o.Name)
	if o.DataAt != 0 || len(o.Data) > 0 {
		out.data(o)
	}
	for _, s := range o.Symbols {
		out.symbol(s)
	}
	out.code(o)
}

func (out *output) data(o api.Object) {
	words := []string{"data", number(int64(o.DataAt))}
	for _, n := range o.Data {
		words = append(words, number(n))
	}
	out.line(words...)
}

func (out *output) symbol(s api.Symbol) {
	words := []string{kinds[s.Kind], s.Name}
	// A Wanted symbol has no place of its own.
	if s.Kind != api.Wanted {
		words = append(words, number(int64(s.At)))
	}
	out.line(words...)
}

func (out *output) code(o api.Object) {
	// Relocations rise by their places: so only the first of those that are left can be of the next word.
	left := o.Relocs
	for place, w := range o.Code {
		words := wordsOf(w)
		if len(left) > 0 && left[0].At == place {
			// An instruction's target is its N, and that is its last field.
			words[len(words)-1] = o.Symbols[left[0].Sym].Name
			left = left[1:]
		}
		out.line(words...)
	}
}
