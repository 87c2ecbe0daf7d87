package idl

import (
	"math"
	"math/bits"
	"strconv"
	"strings"

	"intermede/api"
)

// levels are the operators of two sides, from those that bind least on.
var levels = [signed][3]string{{"|"}, {"^"}, {"&"}, {"<<", ">>"}, {"+", "-"}, {"*", "/", "%"}}

// The levels of signs before an operand, and of what has no operators.
const (
	signed = 6
	alone  = signed + 1
)

// node is an expression: an operator with its sides, a sign with the left one, or a word.
type node struct {
	op          string
	level       int
	left, right *node
	sort        int
}

// isOf reports whether a word is an operator of a level.
func isOf(level int, word string) bool {
	for i := range len(levels[level]) {
		if word != "" && levels[level][i] == word {
			return true
		}
	}
	return false
}

// expr reads an expression; directly within < > the word >> is no operator. What would be written with too many levels of parentheses has too many, as it could not be read again.
func (r *reader) expr(direct bool) *node {
	n := r.binary(0, direct)
	if r.parens == 0 {
		r.over = r.over || n.sideLevels(false, direct) > maxLevels
	}
	return n
}

func (r *reader) binary(level int, direct bool) *node {
	if level == signed {
		return r.operand(direct)
	}
	left := r.binary(level+1, direct)
	for {
		op := r.words[r.at].text
		if !isOf(level, op) || op == ">>" && direct {
			return left
		}
		r.at++
		left = &node{op: op, level: level, left: left, right: r.binary(level+1, direct)}
	}
}

func (r *reader) operand(direct bool) *node {
	w := r.words[r.at]
	switch {
	case w.text == "-" || w.text == "+" || w.text == "~":
		r.at++
		return &node{op: w.text, level: signed, left: r.operand(direct)}
	case r.is("("):
		r.deeper(&r.parens)
		n := r.expr(false)
		r.parens--
		r.must(")")
		return n
	case w.sort == aNumber:
		r.at++
		n, _ := number(w.text)
		return &node{op: strconv.Itoa(n), level: alone, sort: aNumber}
	case w.sort == aText:
		r.at++
		return &node{op: w.text, level: alone, sort: aText}
	}
	return &node{op: r.path(), level: alone, sort: aName}
}

// show writes an expression, with parentheses as they are needed.
func (n *node) show(b *strings.Builder, direct bool) {
	switch {
	case n.level == alone:
		b.WriteString(n.op)
	case n.level == signed:
		b.WriteString(n.op)
		n.left.side(b, n.left.level <= signed, direct)
	default:
		n.left.side(b, n.left.level < n.level, direct)
		b.WriteString(" " + n.op + " ")
		n.right.side(b, n.right.level <= n.level, direct)
	}
}

// side writes a side of an operator, in parentheses if they are needed.
func (n *node) side(b *strings.Builder, needed, direct bool) {
	if !needed && !(direct && n.op == ">>") {
		n.show(b, direct)
		return
	}
	b.WriteByte('(')
	n.show(b, false)
	b.WriteByte(')')
}

// levels tells how many levels of parentheses show writes.
func (n *node) levels(direct bool) int {
	switch {
	case n.level == alone:
		return 0
	case n.level == signed:
		return n.left.sideLevels(n.left.level <= signed, direct)
	}
	return max(n.left.sideLevels(n.left.level < n.level, direct), n.right.sideLevels(n.right.level <= n.level, direct))
}

func (n *node) sideLevels(needed, direct bool) int {
	if !needed && !(direct && n.op == ">>") {
		return n.levels(direct)
	}
	return 1 + n.levels(false)
}

// text returns the canonical form of an expression.
func (n *node) text(direct bool) string {
	var b strings.Builder
	n.side(&b, false, direct)
	return b.String()
}

// leaves tells the words of an expression, from the left.
func (n *node) leaves(told func(*node)) {
	if n.level == alone {
		told(n)
		return
	}
	n.left.leaves(told)
	if n.right != nil {
		n.right.leaves(told)
	}
}

// value reckons an expression of numbers; what has none leaves by a panic.
func (n *node) value(names map[string]int) int {
	switch {
	case n.sort == aNumber:
		v, _ := strconv.Atoi(n.op)
		return v
	case n.level == alone:
		return names[n.op]
	}
	a := n.left.value(names)
	if n.level == signed {
		return n.unary(a)
	}
	return n.both(a, n.right.value(names))
}

func (n *node) unary(a int) int {
	switch n.op {
	case "-":
		return difference(0, a)
	case "~":
		return ^a
	}
	return a
}

func (n *node) both(a, b int) int {
	switch n.op {
	case "|":
		return a | b
	case "^":
		return a ^ b
	case "&":
		return a & b
	case "+":
		return sum(a, b)
	case "-":
		return difference(a, b)
	case "*":
		return product(a, b)
	case "<<", ">>":
		return shifted(n.op, a, b)
	}
	if b == 0 || n.op == "/" && a == math.MinInt && b == -1 {
		panic(wrong{api.ErrRange})
	}
	if n.op == "/" {
		return a / b
	}
	return a % b
}

func shifted(op string, a, by int) int {
	if by < 0 || by > 63 {
		panic(wrong{api.ErrRange})
	}
	if op == ">>" {
		return a >> by
	}
	if a<<by>>by != a {
		panic(wrong{api.ErrRange})
	}
	return a << by
}

func sum(a, b int) int {
	if n := a + b; (n > a) == (b > 0) {
		return n
	}
	panic(wrong{api.ErrRange})
}

func difference(a, b int) int {
	if n := a - b; (n < a) == (b > 0) {
		return n
	}
	panic(wrong{api.ErrRange})
}

// product multiplies without signs, as there the upper word tells what does not fit.
func product(a, b int) int {
	upper, lower := bits.Mul64(magnitude(a), magnitude(b))
	most := uint64(math.MaxInt)
	below := (a < 0) != (b < 0)
	if below {
		most++
	}
	if upper != 0 || lower > most {
		panic(wrong{api.ErrRange})
	}
	if below {
		return -int(lower)
	}
	return int(lower)
}

func magnitude(n int) uint64 {
	if n < 0 {
		return -uint64(n)
	}
	return uint64(n)
}

// wrong is an expression that has no value.
type wrong struct{ e api.Errno }

// Value returns the value of an expression of numbers.
func Value(text string, names []string, values []int) (int, api.Errno) {
	if len(text) > api.MaxText {
		return 0, api.ErrLong
	}
	var n *node
	r, _, e := read(text, func(r *reader) { n = r.expr(false) })
	if e != api.OK {
		return 0, e
	}
	if len(names) != len(values) {
		return 0, api.ErrSize
	}
	known := map[string]int{}
	for i := len(names) - 1; i >= 0; i-- {
		known[names[i]] = values[i]
	}
	v, e := valued(n, known)
	if e == api.OK && r.over {
		return 0, api.ErrLimit
	}
	return v, e
}

// valued asks an expression for texts, then for names without value, then for its value.
func valued(n *node, names map[string]int) (v int, e api.Errno) {
	texts, unknown := false, false
	n.leaves(func(leaf *node) {
		texts = texts || leaf.sort == aText
		if leaf.sort == aName {
			_, there := names[leaf.op]
			unknown = unknown || !there
		}
	})
	switch {
	case texts:
		return 0, api.ErrKind
	case unknown:
		return 0, api.ErrName
	}
	defer func() {
		if p := recover(); p != nil {
			v, e = 0, api.ErrRange
		}
	}()
	return n.value(names), api.OK
}
