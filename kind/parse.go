package kind

import (
	"strconv"
	"strings"

	"intermede/api"
)

// stop is what a reader panics with: the index of the first byte with which nothing right begins.
type stop int

// reader reads the form of types. What is wrong by validity alone is asked behind it.
type reader struct {
	s    string
	at   int
	over bool // something is there that no type has: a number out of int, two defaults
}

// Parse reads a type; at is the index of the first wrong byte.
func Parse(text string) (t api.Type, at int, e api.Errno) {
	if len(text) > api.MaxText {
		return api.Type{}, 0, api.ErrLong
	}
	defer func() {
		switch p := recover().(type) {
		case nil:
		case stop:
			t, at, e = api.Type{}, int(p), api.ErrSyntax
		default:
			t, at, e = api.Type{}, 0, api.ErrSyntax
		}
	}()
	r := &reader{s: text}
	t = r.typ()
	if r.at < len(text) {
		panic(stop(r.at))
	}
	if r.over || Format(t) != text {
		panic(stop(len(text)))
	}
	return t, 0, api.OK
}

// next returns the next byte, 0 at the end.
func (r *reader) next() byte {
	if r.at < len(r.s) {
		return r.s[r.at]
	}
	return 0
}

// is takes a byte, if it is the next one.
func (r *reader) is(c byte) bool {
	if r.at < len(r.s) && r.s[r.at] == c {
		r.at++
		return true
	}
	return false
}

func (r *reader) must(s string) {
	for i := range len(s) {
		if !r.is(s[i]) {
			panic(stop(r.at))
		}
	}
}

// run takes bytes of a sort, at least one.
func (r *reader) run(in func(byte) bool) string {
	from := r.at
	for r.at < len(r.s) && in(r.s[r.at]) {
		r.at++
	}
	if r.at == from {
		panic(stop(r.at))
	}
	return r.s[from:r.at]
}

func (r *reader) name() string {
	if !isLetter(r.next()) {
		panic(stop(r.at))
	}
	return r.run(isWord)
}

func isDigit(c byte) bool { return c >= '0' && c <= '9' }

// number takes a number without leading zeros.
func (r *reader) number() int {
	from := r.at
	if !r.is('0') {
		r.run(isDigit)
	}
	return r.value(from)
}

// label takes a number that may be below 0.
func (r *reader) label() int {
	from := r.at
	r.is('-')
	r.number()
	return r.value(from)
}

func (r *reader) value(from int) int {
	n, err := strconv.Atoi(r.s[from:r.at])
	if err != nil {
		r.over = true
	}
	return n
}

// word takes the word with which a type begins: it is wrong where no word goes on.
func (r *reader) word() int {
	most := 0
	for kind := range len(words) {
		word, n := words[kind], 0
		for n < len(word) && strings.HasPrefix(r.s[r.at:], word[:n+1]) {
			n++
		}
		if n == len(word) {
			r.at += n
			return kind
		}
		most = max(most, n)
	}
	panic(stop(r.at + most))
}

func (r *reader) typ() api.Type {
	t := api.Type{Kind: r.word()}
	switch t.Kind {
	case api.TText:
		if r.is('<') {
			t.N = r.bound()
		}
	case api.TFixed:
		r.must("<")
		t.N = r.number()
		r.must(",")
		t.M = r.bound()
	case api.TEnum:
		r.heading(&t)
		r.must("{")
		r.list('}', func() { t.Names = append(t.Names, r.name()) })
	case api.TStruct, api.TExcept:
		r.heading(&t)
		r.members(&t)
	case api.TUnion:
		r.union(&t)
	case api.TSeq, api.TArray:
		r.must("<")
		t.Kids = []api.Type{r.typ()}
		if t.Kind == api.TSeq && r.is('>') {
			break
		}
		r.must(",")
		t.N = r.bound()
	case api.TAlias:
		r.heading(&t)
		r.must(" ")
		t.Kids = []api.Type{r.typ()}
	case api.TObject:
		r.heading(&t)
	case api.TValue:
		r.valueType(&t)
	case api.TRef:
		r.must(" ")
		t.ID = r.run(inID)
	}
	return t
}

// bound takes a number, and the end of the brackets.
func (r *reader) bound() int {
	n := r.number()
	r.must(">")
	return n
}

// heading takes the id and the name of a type.
func (r *reader) heading(t *api.Type) {
	r.must(" ")
	t.ID = r.run(inID)
	r.must(" ")
	t.Name = r.name()
}

// list takes things between commas up to an end; there may be none, as their number is asked later on.
func (r *reader) list(end byte, one func()) {
	if r.is(end) {
		return
	}
	one()
	for !r.is(end) {
		r.must(",")
		one()
	}
}

func (r *reader) member(t *api.Type) {
	t.Names = append(t.Names, r.name())
	r.must(" ")
	t.Kids = append(t.Kids, r.typ())
	r.must(";")
}

func (r *reader) members(t *api.Type) {
	r.must("{")
	for !r.is('}') {
		r.member(t)
	}
}

func (r *reader) union(t *api.Type) {
	r.heading(t)
	r.must("(")
	t.Kids = []api.Type{r.typ()}
	r.must("){")
	t.N = -1
	for !r.is('}') {
		labels, isDefault := r.labels()
		if isDefault && t.N >= 0 {
			r.over = true
		}
		if isDefault {
			t.N = len(t.Names)
		}
		t.Labels = append(t.Labels, labels)
		r.member(t)
	}
}

// labels takes what stands before a member of a union.
func (r *reader) labels() (labels []int, isDefault bool) {
	if r.next() != 'c' && r.next() != 'd' {
		panic(stop(r.at))
	}
	if r.next() == 'd' {
		r.must("default:")
		return nil, true
	}
	r.must("case ")
	labels = []int{r.label()}
	for !r.is(':') {
		r.must(",")
		if r.next() == 'd' {
			r.must("default:")
			return labels, true
		}
		labels = append(labels, r.label())
	}
	return labels, false
}

func (r *reader) valueType(t *api.Type) {
	r.must(" ")
	t.Name = r.name()
	r.must("[")
	r.list(']', func() {
		part := api.Part{ID: r.run(inID)}
		r.must(" ")
		part.N = r.number()
		if r.is(' ') {
			r.must("t")
			part.Trunc = true
		}
		t.Chain = append(t.Chain, part)
		t.ID = part.ID
	})
	r.members(t)
}
