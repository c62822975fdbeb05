package asm_test

import (
	"fmt"
	"math/rand"
	"regexp"
	"slices"
	"strconv"
	"strings"
	"testing"

	"pleat/api"
	"pleat/asm"
	"pleat/object"
)

var (
	numberForm = regexp.MustCompile(`^(0|-?[1-9][0-9]*)$`)
	nameForm   = regexp.MustCompile(`^[a-zA-Z_][a-zA-Z0-9_.]{0,23}$`)
	blankForm  = regexp.MustCompile(`[\t\r ]+`)
)

func plainNumber(w string) (int64, bool) {
	n, err := strconv.ParseInt(w, 10, 64)
	return n, err == nil && numberForm.MatchString(w)
}

// plainForms tells which forms a statement has, a letter for each word behind its first: o an object's name, n another name, i a number, t a target.
func plainForms(words []string) []string {
	switch words[0] {
	case "object":
		return []string{"o"}
	case "data":
		return []string{"i" + strings.Repeat("i", max(0, len(words)-2))}
	case "local", "global", "weak":
		return []string{"n", "ni"}
	case "wanted":
		return []string{"n"}
	case "word":
		return []string{"i"}
	}
	if o, is := ops[words[0]]; is {
		return []string{strings.NewReplacer("P", "t", "D", "i", "A", "i", "B", "i", "N", "i").Replace(o.fields)}
	}
	return nil
}

// plainLook asks 2 and 3 of a statement.
func plainLook(words []string) api.Errno {
	parse, name := true, false
	for _, form := range plainForms(words) {
		if len(form) != len(words)-1 {
			continue
		}
		parse = false
		for k, letter := range form {
			_, is := plainNumber(words[1+k])
			named := nameForm.MatchString(words[1+k])
			parse = parse || letter == 'i' && !is
			name = name || letter == 't' && !is && !named || letter != 'i' && letter != 't' && !named
		}
	}
	switch {
	case parse:
		return api.ErrParse
	case name:
		return api.ErrName
	}
	return api.OK
}

// plainObject is an object as its lines say it.
type plainObject struct {
	api.Object
	line     int
	data     int
	lines    []int    // of each symbol
	unplaced []bool   // of each symbol
	names    []string // for each word of code its target's name, or nothing
	nameLine []int
}

func (o *plainObject) add(s api.Symbol, line int, unplaced bool) bool {
	if object.Of(o.Object, s.Name) >= 0 {
		return false
	}
	o.Symbols, o.lines, o.unplaced = append(o.Symbols, s), append(o.lines, line), append(o.unplaced, unplaced)
	return true
}

func (o *plainObject) end() (api.Errno, int) {
	for at, name := range o.names {
		if name == "" {
			continue
		}
		if object.Of(o.Object, name) < 0 {
			return api.ErrUndefined, o.nameLine[at]
		}
		o.Relocs = append(o.Relocs, api.Reloc{At: at, Sym: object.Of(o.Object, name)})
	}
	if k := slices.Index(o.unplaced, true); k >= 0 {
		return api.ErrUndefined, o.lines[k]
	}
	e, _ := object.Check(o.Object)
	if e != api.OK {
		return e, o.line
	}
	return api.OK, 0
}

func (o *plainObject) put(w uint32, name string, line int) {
	o.Code, o.names, o.nameLine = append(o.Code, w), append(o.names, name), append(o.nameLine, line)
}

// do does 4 and 5 of a statement that 2 and 3 have let pass.
func (o *plainObject) do(words []string, line int) api.Errno {
	var numbers []int64
	name := ""
	for _, w := range words[1:] {
		n, is := plainNumber(w)
		if !is {
			name = w
		}
		numbers = append(numbers, n)
	}
	kinds := map[string]int8{"local": api.Local, "global": api.Global, "weak": api.Weak, "wanted": api.Wanted}
	kind, declares := kinds[words[0]]
	switch {
	case declares:
		s := api.Symbol{Name: words[1], Kind: kind}
		if len(numbers) == 2 {
			s.At = int(numbers[1])
		}
		if !o.add(s, line, len(numbers) == 1 && kind != api.Wanted) {
			return api.ErrTwice
		}
	case words[0] == "data":
		o.data++
		if o.data == 2 {
			return api.ErrTwice
		}
		o.DataAt, o.Data = int(numbers[0]), numbers[1:]
	case words[0] == "word":
		if numbers[0] < 0 || numbers[0] >= 1<<32 {
			return api.ErrField
		}
		o.put(uint32(numbers[0]), "", line)
	default:
		return o.instruction(words[0], numbers, name, line)
	}
	return api.OK
}

func (o *plainObject) instruction(op string, numbers []int64, name string, line int) api.Errno {
	var fields []int
	for k, letter := range ops[op].fields {
		least, most := 0, 15
		switch letter {
		case 'N':
			least, most = -16384, 16383
		case 'P':
			most = 16383
		}
		if numbers[k] < int64(least) || numbers[k] > int64(most) {
			return api.ErrField
		}
		fields = append(fields, int(numbers[k]))
	}
	o.put(word(op, fields...), name, line)
	return api.OK
}

// plainly reckons Read once more, step by step as the document has it.
func plainly(src []byte) ([]api.Object, api.Errno, int) {
	var done []api.Object
	var open *plainObject
	if len(src) > 65536 {
		return nil, api.ErrMany, 0
	}
	for k, text := range strings.Split(string(src), "\n") {
		line := k + 1
		words := slices.DeleteFunc(blankForm.Split(strings.SplitN(text, "#", 2)[0], -1), func(w string) bool { return w == "" })
		label, labelled := "", false
		if len(words) > 0 && words[0][len(words[0])-1] == ':' {
			label, labelled = words[0][:len(words[0])-1], true
			words = words[1:]
		}
		begins := len(words) > 0 && words[0] == "object"
		look := api.OK
		if len(words) > 0 {
			look = plainLook(words)
		}
		stray := open == nil && !begins && (len(words) > 0 || labelled)
		switch {
		case look == api.ErrParse || stray || labelled && (label == "" || begins):
			return nil, api.ErrParse, line
		case look == api.ErrName || labelled && !nameForm.MatchString(label):
			return nil, api.ErrName, line
		}
		if labelled && !open.add(api.Symbol{Name: label, At: len(open.Code)}, line, false) {
			number := object.Of(open.Object, label)
			if !open.unplaced[number] {
				return nil, api.ErrTwice, line
			}
			open.Symbols[number].At, open.unplaced[number] = len(open.Code), false
		}
		switch {
		case begins:
			if open != nil {
				if e, at := open.end(); e != api.OK {
					return nil, e, at
				}
				done = append(done, open.Object)
			}
			open = &plainObject{Object: api.Object{Name: words[1]}, line: line}
		case len(words) > 0:
			if e := open.do(words, line); e != api.OK {
				return nil, e, line
			}
		}
	}
	if open == nil {
		return nil, api.OK, 0
	}
	if e, at := open.end(); e != api.OK {
		return nil, e, at
	}
	return append(done, open.Object), api.OK, 0
}

func pick(r *rand.Rand, from ...string) string { return from[r.Intn(len(from))] }

func anyName(r *rand.Rand) string { return pick(r, "f", "g", "x", "y", "main", "_", "a.b", "loop") }

// anyLine tells a line that may well be right; the numbers are small.
func anyLine(r *rand.Rand) string {
	switch r.Intn(12) {
	case 0:
		return "object " + anyName(r)
	case 1:
		return fmt.Sprint("data ", r.Intn(9), strings.Repeat(" -5", r.Intn(3)))
	case 2:
		return pick(r, "local ", "global ", "weak ") + anyName(r) + pick(r, "", " 0", " 1", " 2")
	case 3:
		return "wanted " + anyName(r)
	case 4:
		return fmt.Sprint("word ", r.Uint32())
	case 5, 6:
		return anyName(r) + ":"
	}
	names := make([]string, 0, len(ops))
	for name := range ops {
		names = append(names, name)
	}
	slices.Sort(names)
	s := names[r.Intn(len(names))]
	for _, letter := range ops[s].fields {
		if letter == 'P' && r.Intn(2) == 0 {
			s += " " + anyName(r)
		} else {
			s += fmt.Sprint(" ", r.Intn(3))
		}
	}
	if r.Intn(4) == 0 {
		return anyName(r) + ": " + s
	}
	return s
}

// bent tells the line with one of its words otherwise, gone, or with another one beside it.
func bent(r *rand.Rand, line string) string {
	words := strings.Fields(line)
	k := r.Intn(len(words))
	other := pick(r, "0", "1", "15", "16", "255", "256", "-1", "-0", "01", "+1", "-", "16383", "16384", "-16384", "-16385", "4294967295", "4294967296",
		"9223372036854775807", "9223372036854775808", "4096", "4097", "f", "g", "9x", ":", "x:", "9:", "x::", "hlt", "object", "local", "jump", "#", "f#", "\xff", "\u00a0")
	switch r.Intn(4) {
	case 0:
		words = slices.Delete(words, k, k+1)
	case 1:
		words = slices.Insert(words, k, other)
	default:
		words[k] = other
	}
	return strings.Join(words, " ")
}

// anySource tells lines of which some may be bent.
func anySource(r *rand.Rand) []string {
	list := []string{"object a"}
	for range r.Intn(9) {
		list = append(list, anyLine(r))
	}
	for range max(0, r.Intn(4)-1) {
		k := r.Intn(len(list))
		list[k] = bent(r, list[k]+" ")
		if strings.TrimSpace(list[k]) == "" {
			list[k] = "halt"
		}
	}
	return list
}

func TestReadAsPlainlyReckoned(t *testing.T) {
	r := rand.New(rand.NewSource(15))
	met := map[api.Errno]int{}
	for range 60000 {
		src := []byte(strings.Join(anySource(r), "\n"))
		l, e, line := asm.Read(src)
		wantL, wantE, want := plainly(src)
		if e != wantE || line != want || !slices.EqualFunc(l, wantL, same) {
			t.Fatalf("P5.1: %q: Read is %v, %d at %d; not %v, %d at %d", src, l, e, line, wantL, wantE, want)
		}
		met[e]++
	}
	for _, e := range []api.Errno{api.OK, api.ErrField, api.ErrName, api.ErrPlace, api.ErrData, api.ErrTwice, api.ErrParse, api.ErrUndefined} {
		if met[e] < 50 {
			t.Errorf("the sources held against the reckoning met the error %d only %d times", e, met[e])
		}
	}
}

// dressed tells the same lines with more blanks, remarks and empty lines, and for each line's number the one that it has now.
func dressed(r *rand.Rand, list []string) (string, []int) {
	s, numbers, now := "", []int{0}, 1
	blank := func(least int) string {
		b := ""
		for range least + r.Intn(3) {
			b += pick(r, " ", "\t", "\r")
		}
		return b
	}
	for _, line := range list {
		for range r.Intn(3) {
			s += blank(0) + pick(r, "", "# object b", "#", "#x: hlt") + "\n"
			now++
		}
		said, remark, has := strings.Cut(line, "#")
		for _, w := range blankForm.Split(said, -1) {
			if w != "" {
				s += blank(0) + w + blank(1)
			}
		}
		if has {
			s += "#" + remark
		}
		s += pick(r, "", "#", "# halt", "#:") + "\n"
		numbers = append(numbers, now)
		now++
	}
	return s, numbers
}

func TestBlanksRemarksAndEmptyLines(t *testing.T) {
	r := rand.New(rand.NewSource(16))
	for range 20000 {
		list := anySource(r)
		l, e, line := asm.Read([]byte(strings.Join(list, "\n")))
		more, numbers := dressed(r, list)
		moreL, moreE, moreLine := asm.Read([]byte(more))
		if moreE != e || moreLine != numbers[line] || !slices.EqualFunc(moreL, l, same) {
			t.Fatalf("what follows: %q is %v, %d at %d; %q is %v, %d at %d", list, l, e, line, more, moreL, moreE, moreLine)
		}
	}
}

// unlabelled tells the same lines, each label on a line of its own.
func unlabelled(list []string) (out []string) {
	for _, line := range list {
		label, behind, is := strings.Cut(line, ": ")
		if is && !strings.Contains(label, "#") {
			out = append(out, label+":")
			line = behind
		}
		out = append(out, line)
	}
	return out
}

func TestLabelOnALineOfItsOwn(t *testing.T) {
	r := rand.New(rand.NewSource(17))
	split := 0
	for range 30000 {
		list := anySource(r)
		l, e, _ := asm.Read([]byte(strings.Join(list, "\n")))
		apart := unlabelled(list)
		if e != api.OK || len(apart) == len(list) {
			continue
		}
		split++
		if apartL, apartE, line := asm.Read([]byte(strings.Join(apart, "\n"))); apartE != api.OK || line != 0 || !slices.EqualFunc(apartL, l, same) {
			t.Fatalf("what follows: %q is %v; %q is %v, %d at %d", list, l, apart, apartL, apartE, line)
		}
	}
	if split < 500 {
		t.Errorf("only %d sources with labels ahead of statements were read", split)
	}
	reads(t, "what follows", lines("object a/local l/x:/l:/halt"), halting(api.Symbol{Name: "l"}, api.Symbol{Name: "x"}))
	reads(t, "what follows", lines("object a/local l/x:/l: halt"), halting(api.Symbol{Name: "l"}, api.Symbol{Name: "x"}))
}

// listed tells an object by lines as chapter 6 has them.
func listed(o api.Object) string {
	s := "object " + o.Name + "\n"
	if o.DataAt != 0 || len(o.Data) > 0 {
		s += fmt.Sprint("data ", o.DataAt)
		for _, n := range o.Data {
			s += fmt.Sprint(" ", n)
		}
		s += "\n"
	}
	for _, y := range o.Symbols {
		s += []string{"local", "global", "weak", "wanted"}[y.Kind] + " " + y.Name
		if y.Kind != api.Wanted {
			s += fmt.Sprint(" ", y.At)
		}
		s += "\n"
	}
	for at, w := range o.Code {
		s += listedWord(w, at, o) + "\n"
	}
	return s
}

func listedWord(w uint32, at int, o api.Object) string {
	for name, op := range ops {
		fields := make([]int, len(op.fields))
		for k, letter := range op.fields {
			switch letter {
			case 'D':
				fields[k] = int(w / 8388608 % 16)
			case 'A':
				fields[k] = int(w / 524288 % 16)
			case 'B':
				fields[k] = int(w / 32768 % 16)
			case 'N':
				fields[k] = int((w+16384)%32768) - 16384
			default:
				fields[k] = int(w % 16384)
			}
		}
		if word(name, fields...) != w {
			continue
		}
		if k := object.At(o, at); k >= 0 {
			return instruction(name, fields[:len(fields)-1]) + " " + o.Symbols[o.Relocs[k].Sym].Name
		}
		return instruction(name, fields)
	}
	return fmt.Sprint("word ", w)
}

func TestObjectsThereAndBack(t *testing.T) {
	r := rand.New(rand.NewSource(18))
	met := 0
	for range 15000 {
		l, e, _ := asm.Read([]byte(strings.Join(anySource(r), "\n")))
		if e != api.OK {
			continue
		}
		met++
		s := ""
		for k := range l {
			for range r.Intn(3) {
				l[k].Code = append(l[k].Code, uint32(r.Intn(22)<<27)|uint32(r.Intn(1<<15)), r.Uint32())
			}
			if check, _ := object.Check(l[k]); check != api.OK {
				l[k] = api.Object{Name: "b", DataAt: 4, Code: []uint32{1, word("place", 15, 2)}}
			}
			s += listed(l[k])
		}
		reads(t, "W6", []byte(s), l...)
	}
	if met < 1000 {
		t.Errorf("only %d sources were read", met)
	}
}
