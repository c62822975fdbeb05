package asm

import (
	"math"

	"pleat/api"
	"pleat/isa"
	"pleat/object"
)

// forms tells the form of each statement by its first word.
func forms() map[string]form {
	all := map[string]form{
		begin:    (*reader).object,
		"data":   (*reader).data,
		"local":  (*reader).local,
		"global": (*reader).global,
		"weak":   (*reader).weak,
		"wanted": (*reader).wanted,
		"word":   (*reader).word,
	}
	for op := int8(0); isa.Name(op) != ""; op++ {
		all[isa.Name(op)] = (*reader).instruction
	}
	return all
}

func (r *reader) object(words []string) (deed, api.Errno) {
	switch {
	case len(words) != 2:
		return nil, api.ErrParse
	case !object.Name(words[1]):
		return nil, api.ErrName
	}
	return func() (api.Errno, int) {
		if e, line := r.end(); e != api.OK {
			return e, line
		}
		r.open = newDraft(words[1], r.line)
		return api.OK, 0
	}, api.OK
}

func (r *reader) data(words []string) (deed, api.Errno) {
	list, are := numbers(words[1:])
	if !are || len(list) == 0 {
		return nil, api.ErrParse
	}
	return func() (api.Errno, int) { return r.here(r.open.data(int(list[0]), list[1:])) }, api.OK
}

func (r *reader) local(words []string) (deed, api.Errno)  { return r.placed(api.Local, words) }
func (r *reader) global(words []string) (deed, api.Errno) { return r.placed(api.Global, words) }
func (r *reader) weak(words []string) (deed, api.Errno)   { return r.placed(api.Weak, words) }

// placed is the form of declarations that say their place, or leave it to a label.
func (r *reader) placed(kind int8, words []string) (deed, api.Errno) {
	if len(words) != 3 {
		return r.declaration(words, symbol{Symbol: api.Symbol{Kind: kind}, waits: true})
	}
	at, is := number(words[2])
	if !is {
		return nil, api.ErrParse
	}
	return r.declaration(words[:2], symbol{Symbol: api.Symbol{Kind: kind, At: int(at)}})
}

func (r *reader) wanted(words []string) (deed, api.Errno) {
	return r.declaration(words, symbol{Symbol: api.Symbol{Kind: api.Wanted}})
}

// declaration is the form that they all share: a word and a name.
func (r *reader) declaration(words []string, s symbol) (deed, api.Errno) {
	switch {
	case len(words) != 2:
		return nil, api.ErrParse
	case !object.Name(words[1]):
		return nil, api.ErrName
	}
	s.Name, s.line = words[1], r.line
	return func() (api.Errno, int) { return r.here(r.open.declare(s)) }, api.OK
}

func (r *reader) word(words []string) (deed, api.Errno) {
	list, are := numbers(words[1:])
	if !are || len(list) != 1 {
		return nil, api.ErrParse
	}
	return func() (api.Errno, int) {
		if list[0] < 0 || list[0] > math.MaxUint32 {
			return r.here(api.ErrField)
		}
		r.open.put(uint32(list[0]))
		return api.OK, 0
	}, api.OK
}

// instruction is the form of all ops: a word for each field that the op has.
func (r *reader) instruction(words []string) (deed, api.Errno) {
	i, e := fieldsOf(words)
	if e != api.OK {
		return nil, e
	}
	return func() (api.Errno, int) {
		w, e := i.encode()
		if e != api.OK {
			return r.here(e)
		}
		if i.target != "" {
			r.open.aim(i.target, r.line)
		}
		r.open.put(w)
		return api.OK, 0
	}, api.OK
}

// The fields of an instruction, in the order of their words.
const (
	fieldD = iota
	fieldA
	fieldB
	fieldN
	fields
)

// written is an instruction as its line has it: its fields may be any numbers; the target is a name, or empty.
type written struct {
	op     int8
	field  [fields]int64
	target string
}

// fieldsOf takes an instruction's words, one for each field that its op has.
func fieldsOf(words []string) (written, api.Errno) {
	op, _ := isa.Of(words[0])
	i := written{op: op}
	order, place := orderOf(op)
	if len(words)-1 != len(order) {
		return written{}, api.ErrParse
	}
	for k, field := range order {
		word := words[1+k]
		n, is := number(word)
		switch {
		case is:
			i.field[field] = n
		case place && field == fieldN:
			i.target = word
		default:
			return written{}, api.ErrParse
		}
	}
	if i.target != "" && !object.Name(i.target) {
		return written{}, api.ErrName
	}
	return i, api.OK
}

// orderOf tells which fields the op has, in order, and whether its N is a place.
func orderOf(op int8) (order []int, place bool) {
	d, a, b, n, place := isa.Has(op)
	for field, has := range [fields]bool{d, a, b, n} {
		if has {
			order = append(order, field)
		}
	}
	return order, place
}

func (i written) encode() (uint32, api.Errno) {
	ins := api.Ins{Op: i.op, D: int8(i.field[fieldD]), A: int8(i.field[fieldA]), B: int8(i.field[fieldB]), N: i.field[fieldN]}
	// A number that does not fit 8 bits has become another one here, which perhaps may be.
	if i.field != [fields]int64{int64(ins.D), int64(ins.A), int64(ins.B), ins.N} {
		return 0, api.ErrField
	}
	return isa.Encode(ins)
}
