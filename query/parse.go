package query

import (
	"strings"

	"intermede/api"
)

// The limits of texts.
const (
	maxText  = 4000
	maxDeep  = 40
	maxFroms = 3
)

// isKept reports whether a word is one of the language.
func isKept(word string) bool {
	switch word {
	case "select", "as", "from", "where", "order", "by", "up", "down", "first", "or", "and", "not", "has", "true", "false", "null", "count", "sum", "least", "greatest":
		return true
	}
	return false
}

// levels are the operators of two sides, from those that bind least on; the sign not stands between and and the comparisons. What begins another one comes behind it.
func levels() [][]string {
	return [][]string{{"or"}, {"and"}, {"not"}, {"=", "!=", "<=", ">=", "<", ">", "has"}, {"+", "-"}, {"*", "/", "%"}}
}

// notLevel is where the sign not stands.
const notLevel = 2

// wrong is what is panicked with where a text is none: the first wrong byte.
type wrong struct{ at int }

// parser reads a text byte by byte; far is how far it is right, whatever is tried.
type parser struct {
	text    string
	at, far int
	plain   bool // an expression for one row alone
	over    bool // something is nested too deep
	levels  [][]string
	two     map[string]operator
	one     map[string]operator
}

func (p *parser) fail() { panic(wrong{p.far}) }

// try tells that so many bytes from here on are right for something that may stand here.
func (p *parser) try(n int) { p.far = max(p.far, p.at+n) }

// pass goes on behind so many bytes, and behind blanks.
func (p *parser) pass(n int) {
	p.at += n
	for p.at < len(p.text) && p.text[p.at] == ' ' {
		p.at++
	}
	p.far = p.at
}

// run returns how many bytes from here on are of a sort.
func (p *parser) run(in func(byte) bool) int {
	n := 0
	for p.at+n < len(p.text) && in(p.text[p.at+n]) {
		n++
	}
	return n
}

// is reads a word or a sign, if it stands here.
func (p *parser) is(word string) bool {
	rest := p.text[p.at:]
	n := 0
	for n < len(word) && n < len(rest) && word[n] == rest[n] {
		n++
	}
	p.try(n)
	if n < len(word) || isSmall(word[0]) && p.run(inName) > n {
		return false
	}
	p.pass(n)
	return true
}

// oneOf reads one of words or signs, if it stands here.
func (p *parser) oneOf(words ...string) (string, bool) {
	for _, word := range words {
		if p.is(word) {
			return word, true
		}
	}
	return "", false
}

func (p *parser) need(word string) {
	if !p.is(word) {
		p.fail()
	}
}

// name reads a name.
func (p *parser) name() string {
	n := 0
	if p.at < len(p.text) && isSmall(p.text[p.at]) {
		n = p.run(inName)
	}
	p.try(min(n, api.MaxName))
	s := p.text[p.at : p.at+n]
	if !isName(s) || isKept(s) {
		p.fail()
	}
	p.pass(n)
	return s
}

func isLetter(c byte) bool { return isSmall(c) || c >= 'A' && c <= 'Z' }

// number reads a whole number, if one stands here.
func (p *parser) number() (int, bool) {
	n, digits := 0, p.run(isDigit)
	for i := range digits {
		n = n*10 + int(p.text[p.at+i]-'0')
		if n > maxNumber {
			p.fail()
		}
		p.try(i + 1)
	}
	if digits == 0 {
		return 0, false
	}
	if end := p.at + digits; end < len(p.text) && (isLetter(p.text[end]) || p.text[end] == '_') {
		p.fail()
	}
	p.pass(digits)
	return n, true
}

// quoted reads a text between quotes, if one stands here; it ends at a quote behind which there is no other one.
func (p *parser) quoted() (string, bool) {
	if !strings.HasPrefix(p.text[p.at:], "'") {
		return "", false
	}
	i := p.at + 1
	for i < len(p.text) && (p.text[i] != '\'' || strings.HasPrefix(p.text[i:], "''")) {
		if p.text[i] == '\'' {
			i++
		}
		i++
	}
	if i >= len(p.text) {
		p.try(len(p.text) - p.at)
		p.fail()
	}
	s := strings.ReplaceAll(p.text[p.at+1:i], "''", "'")
	p.pass(i + 1 - p.at)
	return s, true
}

// expr reads an expression that stands in no other one.
func (p *parser) expr() *node {
	n := p.binary(0)
	p.over = p.over || n.deep(0) > maxDeep
	return n
}

// binary reads operands of the operators of a level, from the left.
func (p *parser) binary(level int) *node {
	switch level {
	case notLevel:
		return p.sign("not", level, func() *node { return p.binary(notLevel + 1) })
	case len(p.levels):
		return p.sign("-", level, p.operand)
	}
	left := p.binary(level + 1)
	for {
		op, ok := p.oneOf(p.levels[level]...)
		if !ok {
			return left
		}
		left = &node{op: op, level: level, do: p.two[op], left: left, right: p.binary(level + 1)}
	}
}

// sign reads something that may have a sign before it, also several times.
func (p *parser) sign(sign string, level int, inner func() *node) *node {
	if !p.is(sign) {
		return inner()
	}
	return &node{op: sign, level: level, do: p.one[sign], left: p.sign(sign, level, inner)}
}

func (p *parser) operand() *node {
	if p.is("(") {
		n := p.binary(0)
		p.need(")")
		n.pairs++
		return n
	}
	if n, ok := p.number(); ok {
		return &node{value: number(n)}
	}
	if s, ok := p.quoted(); ok {
		return &node{value: value{kind: aText, s: s}}
	}
	switch word, _ := p.oneOf("true", "false", "null"); word {
	case "true", "false":
		return &node{value: truth(word == "true")}
	case "null":
		return &node{}
	}
	if p.plain {
		return &node{name: p.name()}
	}
	if word, ok := p.oneOf("count", "sum", "least", "greatest"); ok {
		return p.whole(word)
	}
	name := p.name()
	if p.is(".") {
		return &node{alias: name, name: p.name()}
	}
	return &node{name: name}
}

// whole reads what stands behind count or its like.
func (p *parser) whole(op string) *node {
	n := &node{op: op, whole: true}
	p.need("(")
	if op == "count" {
		p.need("*")
	} else {
		n.left = p.binary(0)
	}
	p.need(")")
	return n
}

// item is an expression that is told under a name.
type item struct {
	*node
	name string
}

// from is a collection that is asked.
type from struct{ name, alias string }

// key is what an order looks at.
type key struct {
	*node
	down bool
}

// query is a query; one without items tells all fields.
type query struct {
	items   []item
	froms   []from
	where   *node
	keys    []key
	bounded bool
	first   int
}

// list reads things with commas between them, at most so many (0: any).
func (p *parser) list(most int, one func()) {
	for n := 1; ; n++ {
		one()
		if n == most || !p.is(",") {
			return
		}
	}
}

func (p *parser) query() *query {
	q := &query{}
	p.need("select")
	if !p.is("*") {
		p.list(0, func() {
			n := p.expr()
			p.need("as")
			q.items = append(q.items, item{n, p.name()})
		})
	}
	p.need("from")
	p.list(maxFroms, func() {
		f := from{name: p.name()}
		f.alias = f.name
		if p.is("as") {
			f.alias = p.name()
		}
		q.froms = append(q.froms, f)
	})
	if p.is("where") {
		q.where = p.expr()
	}
	if p.is("order") {
		p.need("by")
		p.list(0, func() {
			k := key{node: p.expr()}
			way, _ := p.oneOf("up", "down")
			k.down = way == "down"
			q.keys = append(q.keys, k)
		})
	}
	if p.is("first") {
		q.first, q.bounded = p.number()
		if !q.bounded {
			p.fail()
		}
	}
	return q
}

// read reads all of a text; of one that is none it tells the first wrong byte.
func read[T any](text string, plain bool, all func(*parser) T) (x T, at int, e api.Errno) {
	if len(text) > maxText {
		return x, 0, api.ErrLong
	}
	defer func() {
		if r := recover(); r != nil {
			w, _ := r.(wrong)
			var none T
			x, at, e = none, w.at, api.ErrSyntax
		}
	}()
	p := &parser{text: text, plain: plain, levels: levels(), two: operators(), one: signs()}
	p.pass(0)
	x = all(p)
	if p.at < len(text) {
		p.fail()
	}
	if p.over {
		var none T
		return none, 0, api.ErrLimit
	}
	return x, 0, api.OK
}

// Check tells the first byte with which no query begins.
func Check(text string) (at int, e api.Errno) {
	_, at, e = read(text, false, (*parser).query)
	return at, e
}

// Show writes a query with all operators in parentheses.
func Show(text string) (string, api.Errno) {
	q, _, e := read(text, false, (*parser).query)
	if e != api.OK {
		return "", e
	}
	return q.show(), api.OK
}
