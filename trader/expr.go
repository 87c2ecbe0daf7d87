// Package trader finds objects by what they offer.
package trader

import (
	"strconv"
	"strings"

	"intermede/api"
)

// The kinds of properties.
const (
	aNumber = 1 + iota
	aText
	aTruth
)

// The limits of texts and numbers.
const (
	maxExpr   = 2000
	maxDeep   = 40
	maxNumber = 1000000000000000
)

// isKept reports whether a word is no name of properties.
func isKept(word string) bool {
	switch word {
	case "and", "or", "not", "exist", "true", "false", "min", "max", "with", "first":
		return true
	}
	return false
}

func isSmall(c byte) bool { return c >= 'a' && c <= 'z' }

func isDigit(c byte) bool { return c >= '0' && c <= '9' }

func inName(c byte) bool { return isSmall(c) || isDigit(c) || c == '_' }

// run returns the index behind the bytes of a sort, from an index on.
func run(s string, i int, in func(byte) bool) int {
	for i < len(s) && in(s[i]) {
		i++
	}
	return i
}

// isName reports whether a text is a name, of whatever.
func isName(s string) bool {
	return s != "" && len(s) <= api.MaxName && isSmall(s[0]) && run(s, 0, inName) == len(s)
}

// isPropName reports whether a text is a name of properties.
func isPropName(s string) bool { return isName(s) && !isKept(s) }

// ValidProp reports whether a property is valid.
func ValidProp(p api.Prop) bool {
	if !isPropName(p.Name) || len(p.L) > 0 {
		return false
	}
	switch p.Kind {
	case aNumber:
		return p.S == "" && p.N >= -maxNumber && p.N <= maxNumber
	case aText:
		return p.N == 0 && len(p.S) <= api.MaxText
	case aTruth:
		return p.S == "" && (p.N == 0 || p.N == 1)
	}
	return false
}

// validProps reports whether properties are valid, and ascend by different names.
func validProps(l []api.Prop) bool {
	for i, p := range l {
		if !ValidProp(p) || i > 0 && l[i-1].Name >= p.Name {
			return false
		}
	}
	return true
}

// wrong is what is panicked with where a text is none.
type wrong struct{ e api.Errno }

func must(ok bool) {
	if !ok {
		panic(wrong{api.ErrSyntax})
	}
}

// words returns the words of a text.
func words(s string) []string {
	var l []string
	for i := 0; i < len(s); {
		if s[i] == ' ' {
			i++
			continue
		}
		end := wordEnd(s, i)
		l = append(l, s[i:end])
		i = end
	}
	return l
}

func wordEnd(s string, i int) int {
	switch c := s[i]; {
	case isSmall(c):
		return run(s, i, inName)
	case isDigit(c):
		end := run(s, i, isDigit)
		must(end == len(s) || s[end] != '_' && !isSmall(s[end]) && (s[end] < 'A' || s[end] > 'Z'))
		return end
	case c == '\'':
		for i++; i < len(s) && s[i] != '\''; i++ {
			if s[i] == '\\' {
				i++
				must(i < len(s) && (s[i] == '\'' || s[i] == '\\'))
			}
		}
		must(i < len(s))
		return i + 1
	}
	for _, sign := range [...]string{"==", "!=", "<=", ">="} {
		if strings.HasPrefix(s[i:], sign) {
			return i + 2
		}
	}
	must(strings.IndexByte("<>~+-*/()", s[i]) >= 0)
	return i + 1
}

// node is an expression: an operator with its sides (a sign has no right one), a property, or a value.
type node struct {
	op          string
	level       int // of the operator
	pairs       int // of parentheses around it in the text
	left, right *node
	name        string
	value       api.Prop
}

// The levels of operators of two sides, from the loosest on.
const (
	orLevel = iota
	andLevel
	notLevel // of the sign not, which stands between them
	compareLevel
	sumLevel
	productLevel
	signLevel
	operandLevel
)

// operator is how strongly an operator binds, and what it makes of two values; both are there and of one kind.
type operator struct {
	level int
	do    func(a, b api.Prop) (api.Prop, bool)
}

func truth(b bool) api.Prop {
	p := api.Prop{Kind: aTruth}
	if b {
		p.N = 1
	}
	return p
}

// compares makes an operator of what is asked of the order of two values.
func compares(holds func(order int) bool, truths bool) operator {
	return operator{compareLevel, func(a, b api.Prop) (api.Prop, bool) {
		if a.Kind == aTruth && !truths {
			return api.Prop{}, false
		}
		order := strings.Compare(a.S, b.S)
		if a.N != b.N {
			order = 1
			if a.N < b.N {
				order = -1
			}
		}
		return truth(holds(order)), true
	}}
}

// reckons makes an operator of what is reckoned of two numbers.
func reckons(level int, reckon func(a, b int) (int, bool)) operator {
	return operator{level, func(a, b api.Prop) (api.Prop, bool) {
		if a.Kind != aNumber {
			return api.Prop{}, false
		}
		n, ok := reckon(a.N, b.N)
		if !ok || n < -maxNumber || n > maxNumber {
			return api.Prop{}, false
		}
		return api.Prop{Kind: aNumber, N: n}, true
	}}
}

func operators() map[string]operator {
	return map[string]operator{
		"or": {level: orLevel}, "and": {level: andLevel},
		"==": compares(func(n int) bool { return n == 0 }, true),
		"!=": compares(func(n int) bool { return n != 0 }, true),
		"<":  compares(func(n int) bool { return n < 0 }, false),
		"<=": compares(func(n int) bool { return n <= 0 }, false),
		">":  compares(func(n int) bool { return n > 0 }, false),
		">=": compares(func(n int) bool { return n >= 0 }, false),
		"~": {compareLevel, func(a, b api.Prop) (api.Prop, bool) {
			return truth(strings.Contains(b.S, a.S)), a.Kind == aText
		}},
		"+": reckons(sumLevel, func(a, b int) (int, bool) { return a + b, true }),
		"-": reckons(sumLevel, func(a, b int) (int, bool) { return a - b, true }),
		"*": reckons(productLevel, func(a, b int) (int, bool) {
			return a * b, a == 0 || max(b, -b) <= maxNumber/max(a, -a)
		}),
		"/": reckons(productLevel, func(a, b int) (int, bool) {
			if b == 0 {
				return 0, false
			}
			return a / b, true
		}),
	}
}

// parser reads the words of an expression.
type parser struct {
	words     []string
	at        int
	operators map[string]operator
}

func (p *parser) is(word string) bool {
	if p.at < len(p.words) && p.words[p.at] == word {
		p.at++
		return true
	}
	return false
}

// binary reads operands of operators of a level, from the left; comparisons do not group.
func (p *parser) binary(level int) *node {
	switch level {
	case notLevel:
		return p.not()
	case signLevel:
		return p.sign()
	}
	left := p.binary(level + 1)
	for p.at < len(p.words) {
		op := p.words[p.at]
		o, ok := p.operators[op]
		if !ok || o.level != level {
			break
		}
		p.at++
		left = &node{op: op, level: level, left: left, right: p.binary(level + 1)}
		if level == compareLevel {
			break
		}
	}
	return left
}

func (p *parser) not() *node {
	if !p.is("not") {
		return p.binary(notLevel + 1)
	}
	return &node{op: "not", level: notLevel, left: p.not()}
}

func (p *parser) sign() *node {
	if !p.is("-") {
		return p.operand()
	}
	return &node{op: "-", level: signLevel, left: p.sign()}
}

func (p *parser) operand() *node {
	if p.is("(") {
		n := p.binary(orLevel)
		must(p.is(")"))
		n.pairs++
		return n
	}
	must(p.at < len(p.words))
	word := p.words[p.at]
	p.at++
	switch {
	case word == "true" || word == "false":
		return &node{value: truth(word == "true")}
	case word == "exist":
		must(p.at < len(p.words) && isPropName(p.words[p.at]))
		p.at++
		return &node{op: "exist", level: operandLevel, name: p.words[p.at-1]}
	case word[0] == '\'':
		return &node{value: api.Prop{Kind: aText, S: unescaped(word[1 : len(word)-1])}}
	case isDigit(word[0]):
		n, err := strconv.Atoi(word)
		must(err == nil && n <= maxNumber)
		return &node{value: api.Prop{Kind: aNumber, N: n}}
	}
	must(isPropName(word))
	return &node{name: word}
}

func unescaped(s string) string {
	return strings.NewReplacer(`\'`, `'`, `\\`, `\`).Replace(s)
}

func escaped(s string) string {
	return strings.NewReplacer(`'`, `\'`, `\`, `\\`).Replace(s)
}

// deep returns how deep an expression is nested in signs and parentheses, at a place where only operators of a level, and those that bind more strongly, stand without parentheses. A pair by itself, as Show writes it around each operator, counts only at a place that asks for it: so Show's text is nested no deeper than the text.
func (n *node) deep(level int) int {
	deep := n.pairs
	if n.op != "" && n.pairs == 1 && n.level >= level {
		deep = 0
	}
	switch {
	case n.left == nil:
		return deep
	case n.right == nil:
		return deep + 1 + n.left.deep(n.level)
	case n.level == compareLevel: // these do not group
		return deep + max(n.left.deep(n.level+1), n.right.deep(n.level+1))
	}
	return deep + max(n.left.deep(n.level), n.right.deep(n.level+1))
}

// parse reads an expression of words.
func parse(l []string) *node {
	p := &parser{words: l, operators: operators()}
	n := p.binary(orLevel)
	must(p.at == len(l))
	if n.deep(orLevel) > maxDeep {
		panic(wrong{api.ErrLimit})
	}
	return n
}

// caught tells what was wrong, of what was recovered.
func caught(p any) api.Errno {
	if w, ok := p.(wrong); ok {
		return w.e
	}
	return api.ErrSyntax
}

// read reads a constraint: the empty text is true.
func read(text string) (n *node, e api.Errno) {
	if len(text) > maxExpr {
		return nil, api.ErrLong
	}
	if text == "" {
		return &node{value: truth(true)}, api.OK
	}
	defer func() {
		if p := recover(); p != nil {
			n, e = nil, caught(p)
		}
	}()
	return parse(words(text)), api.OK
}

// ValidExpr reports whether a text is an expression.
func ValidExpr(text string) bool {
	_, e := read(text)
	return e == api.OK
}

// Show writes an expression with all operators in parentheses.
func Show(text string) (string, api.Errno) {
	n, e := read(text)
	if e != api.OK {
		return "", e
	}
	var b strings.Builder
	n.show(&b)
	return b.String(), api.OK
}

func (n *node) show(b *strings.Builder) {
	switch {
	case n.op == "exist":
		b.WriteString("(exist " + n.name + ")")
	case n.op != "":
		b.WriteByte('(')
		if n.right != nil {
			n.left.show(b)
			b.WriteString(" " + n.op + " ")
			n.right.show(b)
		} else {
			b.WriteString(n.op + " ")
			n.left.show(b)
		}
		b.WriteByte(')')
	case n.name != "":
		b.WriteString(n.name)
	case n.value.Kind == aText:
		b.WriteString("'" + escaped(n.value.S) + "'")
	case n.value.Kind == aTruth:
		b.WriteString(strconv.FormatBool(n.value.N == 1))
	default:
		b.WriteString(strconv.Itoa(n.value.N))
	}
}

// find returns the property with a name.
func find(props []api.Prop, name string) (api.Prop, bool) {
	for _, p := range props {
		if p.Name == name {
			return p, true
		}
	}
	return api.Prop{}, false
}

// isTruth reports whether a value is there, and is one of both truths.
func isTruth(v api.Prop, ok, b bool) bool { return ok && v.Kind == aTruth && (v.N == 1) == b }

// eval returns the value of an expression for properties; ok is false if it is none.
func (n *node) eval(props []api.Prop, all map[string]operator) (v api.Prop, ok bool) {
	switch {
	case n.op == "exist":
		_, there := find(props, n.name)
		return truth(there), true
	case n.op == "" && n.name != "":
		v, ok = find(props, n.name)
		v.Name, v.L = "", nil
		return v, ok
	case n.op == "":
		return n.value, true
	}
	a, ok := n.left.eval(props, all)
	switch {
	case n.op == "not":
		return truth(a.N == 0), ok && a.Kind == aTruth
	case n.right == nil:
		return api.Prop{Kind: aNumber, N: -a.N}, ok && a.Kind == aNumber
	}
	b, ok2 := n.right.eval(props, all)
	if n.op == "and" || n.op == "or" {
		// One side decides alone, whatever the other one is.
		decides := n.op == "or"
		if isTruth(a, ok, decides) || isTruth(b, ok2, decides) {
			return truth(decides), true
		}
		return truth(!decides), isTruth(a, ok, !decides) && isTruth(b, ok2, !decides)
	}
	if !ok || !ok2 || a.Kind != b.Kind {
		return api.Prop{}, false
	}
	return all[n.op].do(a, b)
}

// of is eval, with nothing where there is no value.
func (n *node) of(props []api.Prop) (api.Prop, bool) {
	v, ok := n.eval(props, operators())
	if !ok {
		return api.Prop{}, false
	}
	return v, true
}

// fits reports whether the value of an expression is true.
func (n *node) fits(props []api.Prop) bool {
	v, ok := n.of(props)
	return isTruth(v, ok, true)
}

// Value returns the value of an expression for properties, and whether there is one.
func Value(text string, props []api.Prop) (api.Prop, bool, api.Errno) {
	if !validProps(props) {
		return api.Prop{}, false, api.ErrInvalid
	}
	n, e := read(text)
	if e != api.OK {
		return api.Prop{}, false, e
	}
	v, ok := n.of(props)
	return v, ok, api.OK
}

// Fits reports whether an expression is true for properties.
func Fits(text string, props []api.Prop) (bool, api.Errno) {
	v, ok, e := Value(text, props)
	return isTruth(v, ok, true), e
}
