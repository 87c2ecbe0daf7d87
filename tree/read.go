package tree

import (
	"intermede/api"
	"intermede/idl"
)

// maxLevels is the most levels of braces and of parentheses.
const maxLevels = 10

// stop is what a reader panics with: the line of the first wrong word.
type stop int

// reader reads words. What is too much is only noted, as what is wrong otherwise comes first.
type reader struct {
	s              string
	words          []word
	at             int
	count          int
	braces, parens int
	over           bool
}

// Read returns the classes of a text; over tells that there is too much of something, line is that of the first wrong word.
func Read(text string) (l []Class, over bool, line int, e api.Errno) {
	if len(text) > api.MaxText {
		return nil, false, 0, api.ErrLong
	}
	defer func() {
		switch p := recover().(type) {
		case nil:
		case stop:
			l, over, line, e = nil, false, int(p), api.ErrSyntax
		default:
			l, over, line, e = nil, false, 0, api.ErrSyntax
		}
	}()
	r := &reader{s: text, words: words(text)}
	for r.words[r.at].sort != theEnd {
		l = append(l, r.class())
	}
	return l, r.over, 0, api.OK
}

func (r *reader) fail() {
	panic(stop(r.words[r.at].line))
}

// sees reports whether the next word is a kept one or a sign.
func (r *reader) sees(text string) bool { return r.words[r.at].text == text }

func (r *reader) is(text string) bool {
	if r.sees(text) {
		r.at++
		return true
	}
	return false
}

func (r *reader) must(text string) {
	if !r.is(text) {
		r.fail()
	}
}

// counted counts a statement, a field or a variable.
func (r *reader) counted() {
	r.count++
	r.over = r.over || r.count > api.MaxDefs
}

func (r *reader) deeper(level *int) {
	*level++
	r.over = r.over || *level > maxLevels
}

func (r *reader) name() string {
	if r.words[r.at].sort != aName {
		r.fail()
	}
	r.at++
	return r.words[r.at-1].text
}

// operation takes a name that may have an underscore before it.
func (r *reader) operation() string {
	if r.words[r.at].sort == anOperation {
		r.at++
		return r.words[r.at-1].text
	}
	return r.name()
}

func (r *reader) path() string {
	s := ""
	if r.is("::") {
		s = "::"
	}
	s += r.name()
	for r.is("::") {
		s += "::" + r.name()
	}
	return s
}

func (r *reader) open() {
	r.must("{")
	r.deeper(&r.braces)
}

func (r *reader) closes() bool {
	if !r.is("}") {
		return false
	}
	r.braces--
	return true
}

func (r *reader) class() Class {
	r.must("class")
	c := Class{Line: r.words[r.at].line}
	c.Name = r.name()
	r.must("of")
	c.Path = r.path()
	r.open()
	c.Fields = r.variables("field")
	for !r.closes() {
		c.Methods = append(c.Methods, r.method())
	}
	return c
}

func (r *reader) method() Method {
	r.must("op")
	m := Method{Line: r.words[r.at].line}
	m.Name = r.operation()
	r.open()
	m.Vars = r.variables("var")
	m.Body = r.rest()
	return m
}

func (r *reader) variables(word string) []Variable {
	var l []Variable
	for r.sees(word) {
		v := Variable{Line: r.words[r.at].line}
		r.at++
		r.counted()
		v.Name, v.Type = r.declared()
		l = append(l, v)
	}
	return l
}

// declared takes a type, a name and a semicolon: layer 7 reads them as a typedef.
func (r *reader) declared() (name, typ string) {
	from := r.words[r.at]
	end := r.at
	wrong := -1 // the line of the first word that is kept here
	for ; r.words[end].sort < noWord && r.words[end].text != ";"; end++ {
		if w := r.words[end]; wrong < 0 && isKept(w.text) {
			wrong = w.line
		}
	}
	last := ";"
	if r.words[end].sort == noWord {
		last = "?" // with this nothing right goes on either
	}
	l, line, e := idl.Parse("typedef " + r.s[from.at:r.words[end].at] + last)
	line += from.line
	if e == api.ErrSyntax && (wrong < 0 || line <= wrong) {
		panic(stop(min(line, r.words[end].line)))
	}
	if wrong >= 0 {
		panic(stop(wrong))
	}
	r.at = end
	r.must(";")
	if e != api.OK { // too many levels: what stands there is of no more use
		r.over = true
		return r.words[end-1].text, "any"
	}
	return l[0].Name, l[0].Type
}

// rest takes statements up to the end of their braces.
func (r *reader) rest() []Stmt {
	var l []Stmt
	for !r.closes() {
		l = append(l, r.stmt())
	}
	return l
}

func (r *reader) block() []Stmt {
	r.open()
	return r.rest()
}

// rule tells how a statement is read behind its first word.
type rule struct {
	read func(*reader, place) Stmt
}

func rules() map[string]rule {
	return map[string]rule{
		"return": {(*reader).returns}, "raise": {(*reader).raises}, "call": {(*reader).calls}, "if": {(*reader).ifs}, "while": {(*reader).whiles}, "try": {(*reader).tries},
	}
}

func (r *reader) stmt() Stmt {
	r.counted()
	first := r.words[r.at]
	p := place{first.line}
	if rule, ok := rules()[first.text]; ok {
		r.at++
		return rule.read(r, p)
	}
	name := r.name()
	r.must("=")
	if r.is("call") {
		c := r.call(p)
		c.Name = name
		return c
	}
	s := &Assign{place: p, Name: name}
	s.Value = r.expr()
	r.must(";")
	return s
}

func (r *reader) returns(p place) Stmt {
	s := &Return{place: p}
	if !r.sees(";") {
		s.Value = r.expr()
	}
	r.must(";")
	return s
}

func (r *reader) raises(p place) Stmt {
	s := &Raise{place: p}
	s.Path = r.path()
	s.Args = r.args()
	r.must(";")
	return s
}

func (r *reader) calls(p place) Stmt { return r.call(p) }

func (r *reader) call(p place) *Call {
	c := &Call{place: p}
	c.Target = r.expr()
	r.must(".")
	c.Op = r.operation()
	c.Args = r.args()
	r.must(";")
	return c
}

func (r *reader) args() []*Expr {
	r.must("(")
	if r.is(")") {
		return nil
	}
	l := []*Expr{r.expr()}
	for r.is(",") {
		l = append(l, r.expr())
	}
	r.must(")")
	return l
}

func (r *reader) ifs(p place) Stmt {
	s := &If{place: p}
	s.Cond = r.expr()
	s.Then = r.block()
	if r.is("else") {
		s.Else = r.block()
	}
	return s
}

func (r *reader) whiles(p place) Stmt {
	s := &While{place: p}
	s.Cond = r.expr()
	s.Body = r.block()
	return s
}

func (r *reader) tries(p place) Stmt {
	s := &Try{place: p}
	s.Body = r.block()
	r.must("catch")
	s.Name = r.name()
	s.Catch = r.block()
	return s
}

// The levels of operators of two sides, from those that bind least; the ones of signs and of words.
const (
	comparing = 2
	signed    = 5
	alone     = 6
)

// level tells how strongly an operator of two sides binds; -1 if it is none.
func level(word string) int {
	switch word {
	case "or":
		return 0
	case "and":
		return 1
	case "==", "!=", "<", "<=", ">", ">=":
		return comparing
	case "+", "-", "&":
		return 3
	case "*", "/", "%":
		return 4
	}
	return -1
}

func (r *reader) expr() *Expr { return r.binary(0) }

func (r *reader) binary(n int) *Expr {
	if n == signed {
		return r.operand()
	}
	left := r.binary(n + 1)
	for level(r.words[r.at].text) == n {
		x := &Expr{Op: r.words[r.at].text, Left: left}
		r.at++
		x.Right = r.binary(n + 1)
		left = x
		if n == comparing { // they are not grouped
			break
		}
	}
	return left
}

func (r *reader) operand() *Expr {
	w := r.words[r.at]
	r.at++
	switch {
	case w.text == "not" || w.text == "-":
		x := &Expr{Op: w.text}
		x.Left = r.operand()
		return x
	case w.text == "(":
		r.deeper(&r.parens)
		x := r.expr()
		r.parens--
		r.must(")")
		return x
	case w.text == True || w.text == False || w.text == Nil || w.text == Self:
		return &Expr{Op: w.text}
	case w.sort == aNumber:
		n, _ := idl.Value(w.text, nil, nil)
		return &Expr{Op: Number, N: n}
	case w.sort == aText:
		return &Expr{Op: Text, S: w.text[1 : len(w.text)-1]}
	}
	r.at--
	return &Expr{Op: Name, S: r.name()}
}
