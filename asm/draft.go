package asm

import (
	"pleat/api"
	"pleat/object"
)

// draft is an object that has begun and has not ended yet.
type draft struct {
	line    int // at which it begins
	name    string
	code    []uint32
	hasData bool
	dataAt  int
	words   []int64
	symbols []*symbol // by their numbers
	named   map[string]*symbol
	targets []target // by their places
}

// symbol is one of a draft. The draft's list and its map point to the same one, so a place that a label says reaches both.
type symbol struct {
	api.Symbol
	number int
	line   int  // that names it first
	waits  bool // until a label says its place
}

// target is a name that stands as N of the instruction at a place; its symbol may come on a later line.
type target struct {
	name     string
	at, line int
}

func newDraft(name string, line int) *draft {
	return &draft{line: line, name: name, named: map[string]*symbol{}}
}

func (d *draft) put(w uint32) { d.code = append(d.code, w) }

// aim says that the next word's target is the symbol of that name.
func (d *draft) aim(name string, line int) {
	d.targets = append(d.targets, target{name: name, at: len(d.code), line: line})
}

func (d *draft) data(at int, words []int64) api.Errno {
	if d.hasData {
		return api.ErrTwice
	}
	// A copy of no words is nil, just as without a data line.
	d.hasData, d.dataAt, d.words = true, at, append([]int64(nil), words...)
	return api.OK
}

func (d *draft) declare(s symbol) api.Errno {
	if _, twice := d.named[s.Name]; twice {
		return api.ErrTwice
	}
	s.number = len(d.symbols)
	d.symbols = append(d.symbols, &s)
	d.named[s.Name] = &s
	return api.OK
}

// label says that the symbol of that name, perhaps a new one, has the place of the next word.
func (d *draft) label(name string, line int) api.Errno {
	s, known := d.named[name]
	switch {
	case !known:
		return d.declare(symbol{Symbol: api.Symbol{Name: name, At: len(d.code)}, line: line})
	case !s.waits:
		return api.ErrTwice
	}
	s.At, s.waits = len(d.code), false
	return api.OK
}

// end tells the object, OK and 0; or the first error that applies, and its line's number.
func (d *draft) end() (api.Object, api.Errno, int) {
	o := api.Object{Name: d.name, Code: d.code, DataAt: d.dataAt, Data: d.words}
	for _, t := range d.targets {
		s, known := d.named[t.name]
		if !known {
			return api.Object{}, api.ErrUndefined, t.line
		}
		o.Relocs = append(o.Relocs, api.Reloc{At: t.at, Sym: s.number})
	}
	for _, s := range d.symbols {
		if s.waits {
			return api.Object{}, api.ErrUndefined, s.line
		}
		o.Symbols = append(o.Symbols, s.Symbol)
	}
	if e, _ := object.Check(o); e != api.OK {
		return api.Object{}, e, d.line
	}
	return o, api.OK, 0
}
