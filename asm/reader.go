package asm

import (
	"strings"

	"pleat/api"
	"pleat/object"
)

const (
	colon = ":"
	// begin is the one statement that stands in no object, and has no label ahead of it.
	begin = "object"
)

// reader is what has been read so far.
type reader struct {
	forms   map[string]form
	objects []api.Object // those that have ended
	open    *draft       // the one that has not; nil ahead of the first
	line    int          // the number of the line that is being read
}

// form asks whether a statement's words are as they should be, and tells what it does if they are.
type form func(r *reader, words []string) (deed, api.Errno)

// deed does what a statement says. It waits until all of its line has been asked, and the line's label is done.
type deed func() (api.Errno, int)

// read takes one line: OK and 0, or the first error that applies, and its line's number.
func (r *reader) read(text string) (api.Errno, int) {
	label, words := parted(wordsOf(text))
	do, e := r.askStatement(words)
	if e = firstOf(r.askLabel(label, words), e); e != api.OK {
		return r.here(e)
	}
	if label != "" {
		if e = r.open.label(nameOf(label), r.line); e != api.OK {
			return r.here(e)
		}
	}
	return do()
}

// parted tells a line's label, its colon included, and the statement's words; either may be missing.
func parted(words []string) (label string, statement []string) {
	if len(words) > 0 && strings.HasSuffix(words[0], colon) {
		return words[0], words[1:]
	}
	return "", words
}

func nameOf(label string) string { return strings.TrimSuffix(label, colon) }

// firstOf tells which of the errors of a label and of its line's statement is told: ErrParse comes ahead.
func firstOf(label, statement api.Errno) api.Errno {
	if label == api.ErrParse || statement == api.OK {
		return label
	}
	return statement
}

func (r *reader) askLabel(label string, words []string) api.Errno {
	switch {
	case label == "":
		return api.OK
	case label == colon || r.open == nil || len(words) > 0 && words[0] == begin:
		return api.ErrParse
	case !object.Name(nameOf(label)):
		return api.ErrName
	}
	return api.OK
}

func (r *reader) askStatement(words []string) (deed, api.Errno) {
	if len(words) == 0 {
		return func() (api.Errno, int) { return api.OK, 0 }, api.OK
	}
	ask, known := r.forms[words[0]]
	if !known || r.open == nil && words[0] != begin {
		return nil, api.ErrParse
	}
	return ask(r, words)
}

// here tells e with the line that is being read; OK has none.
func (r *reader) here(e api.Errno) (api.Errno, int) {
	if e == api.OK {
		return api.OK, 0
	}
	return e, r.line
}

// end ends the object that has begun, if there is one.
func (r *reader) end() (api.Errno, int) {
	if r.open == nil {
		return api.OK, 0
	}
	o, e, line := r.open.end()
	if e != api.OK {
		return e, line
	}
	r.objects = append(r.objects, o)
	return api.OK, 0
}
