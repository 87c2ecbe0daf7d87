package idl

import (
	"strings"

	"intermede/api"
)

// maxLevels is the most levels of braces, of types within types, and of parentheses.
const maxLevels = 10

// stop is what a reader panics with: the line of the first wrong word.
type stop int

// reader reads words. What is too much is only noted, as what is wrong behind it comes first.
type reader struct {
	words          []word
	at             int
	paths          []string
	count          int
	braces, parens int
	over           bool
}

// read lets a function read a text to its end.
func read(text string, form func(*reader)) (r *reader, line int, e api.Errno) {
	r = &reader{}
	for w := range words(text) {
		r.words = append(r.words, w)
	}
	defer func() {
		switch p := recover().(type) {
		case nil:
		case stop:
			r, line, e = nil, int(p), api.ErrSyntax
		default:
			r, line, e = nil, 0, api.ErrSyntax
		}
	}()
	form(r)
	if r.words[r.at].sort != theEnd {
		r.fail()
	}
	return r, 0, api.OK
}

func (r *reader) fail() {
	panic(stop(r.words[r.at].line))
}

// sees reports whether the next word is a kept one or a sign.
func (r *reader) sees(text string) bool {
	return r.words[r.at].text == text
}

// is takes a word, if it is the next one.
func (r *reader) is(text string) bool {
	if r.sees(text) {
		r.at++
		return true
	}
	return false
}

func (r *reader) must(text string) {
	if !r.is(text) {
		r.fail()
	}
}

// closes takes a bracket: the word >> closes two types.
func (r *reader) closes() {
	if r.sees(">>") {
		r.words[r.at].text = ">"
		return
	}
	r.must(">")
}

// deeper counts a level.
func (r *reader) deeper(level *int) {
	*level++
	r.over = r.over || *level > maxLevels
}

func (r *reader) name() string {
	w := r.words[r.at]
	if w.sort != aName {
		r.fail()
	}
	r.at++
	return w.text
}

func (r *reader) path() string {
	var b strings.Builder
	if r.is("::") {
		b.WriteString("::")
	}
	b.WriteString(r.name())
	for r.is("::") {
		b.WriteString("::" + r.name())
	}
	r.paths = append(r.paths, b.String())
	return b.String()
}

// list reads things between commas.
func list[T any](r *reader, one func() T) []T {
	l := []T{one()}
	for r.is(",") {
		l = append(l, one())
	}
	return l
}

// typ reads a type at a level.
func (r *reader) typ(level int) string {
	r.over = r.over || level > maxLevels
	for _, word := range [...]string{"boolean", "octet", "char", "short", "long", "huge", "any", "type", "Object"} {
		if r.is(word) {
			return word
		}
	}
	bound := func() string { return r.expr(true).text(true) }
	var s string
	switch {
	case r.is("string"):
		if !r.is("<") {
			return "string"
		}
		s = "string<" + bound()
	case r.is("fixed"):
		r.must("<")
		s = "fixed<" + bound()
		r.must(",")
		s += "," + bound()
	case r.is("sequence"):
		r.must("<")
		s = "sequence<" + r.typ(level+1)
		if r.is(",") {
			s += "," + bound()
		}
	case r.is("array"):
		r.must("<")
		s = "array<" + r.typ(level+1)
		r.must(",")
		s += "," + bound()
	default:
		return r.path()
	}
	r.closes()
	return s + ">"
}

// rule tells how a declaration is read behind its first word, and where it may stand.
type rule struct {
	read      func(*reader) api.Decl
	top, body bool
}

func rules() map[string]rule {
	return map[string]rule{
		"module":    {(*reader).module, true, false},
		"interface": {(*reader).face, true, false},
		"valuetype": {(*reader).value, true, false},
		"version":   {(*reader).version, true, false},
		"struct":    {(*reader).structure, true, true},
		"exception": {(*reader).exception, true, true},
		"union":     {(*reader).union, true, true},
		"enum":      {(*reader).enum, true, true},
		"typedef":   {(*reader).alias, true, true},
		"const":     {(*reader).constant, true, true},
		"readonly":  {(*reader).readOnly, false, true},
		"attribute": {(*reader).attribute, false, true},
		"oneway":    {(*reader).oneWay, false, true},
	}
}

// counted counts a declaration.
func (r *reader) counted(d api.Decl) api.Decl {
	r.count++
	r.over = r.over || r.count > api.MaxDefs
	return d
}

// decl reads a declaration of the file or a module.
func (r *reader) decl() api.Decl {
	rule := rules()[r.words[r.at].text]
	if !rule.top {
		r.fail()
	}
	return r.ruled(rule)
}

func (r *reader) ruled(rule rule) api.Decl {
	r.at++
	d := rule.read(r)
	r.must(";")
	return r.counted(d)
}

// inner reads a declaration of an interface.
func (r *reader) inner() api.Decl {
	if rule := rules()[r.words[r.at].text]; rule.body {
		return r.ruled(rule)
	}
	d := r.operation()
	r.must(";")
	return r.counted(d)
}

func (r *reader) file() []api.Decl {
	var l []api.Decl
	for r.words[r.at].sort != theEnd {
		l = append(l, r.decl())
	}
	return l
}

// block reads what stands in braces.
func (r *reader) block(one func() api.Decl) []api.Decl {
	r.must("{")
	r.deeper(&r.braces)
	var l []api.Decl
	for !r.is("}") {
		l = append(l, one())
	}
	r.braces--
	return l
}

// filled reads what stands in braces, at least one thing.
func (r *reader) filled(one func() api.Decl) []api.Decl {
	l := r.block(one)
	if len(l) == 0 {
		r.at--
		r.fail()
	}
	return l
}

func (r *reader) module() api.Decl {
	d := api.Decl{Kind: api.DModule, Name: r.name()}
	d.Kids = r.block(r.decl)
	return d
}

func (r *reader) face() api.Decl {
	d := api.Decl{Kind: api.DInterface, Name: r.name()}
	if r.sees(";") {
		d.Kind = api.DForward
		return d
	}
	if r.is(":") {
		d.Names = list(r, r.path)
	}
	d.Kids = r.block(r.inner)
	return d
}

func (r *reader) value() api.Decl {
	d := api.Decl{Kind: api.DValue, Name: r.name()}
	if r.is(":") {
		d.Flag = r.is("truncatable")
		d.Names = []string{r.path()}
	}
	d.Kids = r.block(r.member)
	return d
}

func (r *reader) version() api.Decl {
	d := api.Decl{Kind: api.DVersion, Name: r.path()}
	d.Expr = r.plainNumber()
	r.must(".")
	d.Expr += "." + r.plainNumber()
	return d
}

func (r *reader) plainNumber() string {
	if r.words[r.at].sort != aNumber {
		r.fail()
	}
	return r.operand(false).op
}

func (r *reader) member() api.Decl {
	d := api.Decl{Kind: api.DMember, Type: r.typ(1)}
	d.Name = r.name()
	r.must(";")
	return r.counted(d)
}

func (r *reader) structure() api.Decl {
	d := api.Decl{Kind: api.DStruct, Name: r.name()}
	d.Kids = r.filled(r.member)
	return d
}

func (r *reader) exception() api.Decl {
	d := api.Decl{Kind: api.DExcept, Name: r.name()}
	d.Kids = r.block(r.member)
	return d
}

func (r *reader) union() api.Decl {
	d := api.Decl{Kind: api.DUnion, Name: r.name()}
	r.must("switch")
	r.must("(")
	d.Type = r.typ(1)
	r.must(")")
	d.Kids = r.filled(func() api.Decl {
		labels := []string{r.label()}
		for r.sees("case") || r.sees("default") {
			labels = append(labels, r.label())
		}
		m := r.member()
		m.Names = labels
		return m
	})
	return d
}

func (r *reader) label() string {
	label := "default"
	if !r.is("default") {
		r.must("case")
		label = r.expr(false).text(false)
	}
	r.must(":")
	return label
}

func (r *reader) enum() api.Decl {
	d := api.Decl{Kind: api.DEnum, Name: r.name()}
	r.must("{")
	r.deeper(&r.braces)
	d.Names = list(r, r.name)
	r.must("}")
	r.braces--
	return d
}

func (r *reader) alias() api.Decl {
	d := api.Decl{Kind: api.DAlias, Type: r.typ(1)}
	d.Name = r.name()
	return d
}

func (r *reader) constant() api.Decl {
	d := api.Decl{Kind: api.DConst, Type: r.typ(1)}
	d.Name = r.name()
	r.must("=")
	d.Expr = r.expr(false).text(false)
	return d
}

func (r *reader) readOnly() api.Decl {
	r.must("attribute")
	d := r.attribute()
	d.Flag = true
	return d
}

func (r *reader) attribute() api.Decl {
	d := api.Decl{Kind: api.DAttr, Type: r.typ(1)}
	d.Name = r.name()
	return d
}

func (r *reader) oneWay() api.Decl {
	d := r.operation()
	d.Flag = true
	return d
}

func (r *reader) operation() api.Decl {
	d := api.Decl{Kind: api.DOp, Type: "void"}
	if !r.is("void") {
		d.Type = r.typ(1)
	}
	d.Name = r.name()
	r.must("(")
	if !r.is(")") {
		d.Kids = list(r, r.param)
		r.must(")")
	}
	if r.is("raises") {
		r.must("(")
		d.Names = list(r, r.path)
		r.must(")")
	}
	return d
}

func (r *reader) param() api.Decl {
	d := api.Decl{Kind: api.DParam}
	switch {
	case r.is("in"):
		d.N = api.DIn
	case r.is("out"):
		d.N = api.DOut
	case r.is("inout"):
		d.N = api.DInout
	default:
		r.fail()
	}
	d.Type = r.typ(1)
	d.Name = r.name()
	return r.counted(d)
}
