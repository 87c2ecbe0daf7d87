package query

import (
	"slices"
	"strconv"
	"strings"

	"intermede/api"
)

// operator is what an operator makes of two values; one of one side has no second one.
type operator struct {
	do func(a, b value) value
}

func truth(b bool) value {
	v := value{kind: aTruth}
	if b {
		v.n = 1
	}
	return v
}

func number(n int) value {
	if !inBounds(n) {
		return value{}
	}
	return value{kind: aNumber, n: n}
}

// both makes an operator of two values of one kind.
func both(do func(a, b value) value) operator {
	return operator{func(a, b value) value {
		if a.kind != b.kind || a.kind == isNull {
			return value{}
		}
		return do(a, b)
	}}
}

// compares makes an operator of what is asked of the order of two values.
func compares(holds func(order int) bool) operator {
	return both(func(a, b value) value { return truth(holds(compared(a, b))) })
}

// reckons makes an operator of what is reckoned of two numbers.
func reckons(reckon func(a, b int) value) operator {
	return both(func(a, b value) value {
		if a.kind != aNumber {
			return value{}
		}
		return reckon(a.n, b.n)
	})
}

// divides is reckons of a second number that is not 0.
func divides(reckon func(a, b int) int) operator {
	return reckons(func(a, b int) value {
		if b == 0 {
			return value{}
		}
		return number(reckon(a, b))
	})
}

// decides makes an operator of truths: one side that is so decides alone, whatever the other one is.
func decides(so bool) operator {
	return operator{func(a, b value) value {
		switch {
		case a == truth(so) || b == truth(so):
			return truth(so)
		case a.kind == aTruth && b.kind == aTruth:
			return truth(!so)
		}
		return value{}
	}}
}

func times(a, b int) value {
	if a != 0 && max(b, -b) > maxNumber/max(a, -a) {
		return value{}
	}
	return number(a * b)
}

func has(a, b value) value {
	if a.kind != aText {
		return value{}
	}
	return truth(strings.Contains(a.s, b.s))
}

// operators are those of two sides.
func operators() map[string]operator {
	return map[string]operator{
		"or":  decides(true),
		"and": decides(false),
		"=":   compares(func(order int) bool { return order == 0 }),
		"!=":  compares(func(order int) bool { return order != 0 }),
		"<":   compares(func(order int) bool { return order < 0 }),
		"<=":  compares(func(order int) bool { return order <= 0 }),
		">":   compares(func(order int) bool { return order > 0 }),
		">=":  compares(func(order int) bool { return order >= 0 }),
		"has": both(has),
		"+":   reckons(func(a, b int) value { return number(a + b) }),
		"-":   reckons(func(a, b int) value { return number(a - b) }),
		"*":   reckons(times),
		"/":   divides(func(a, b int) int { return a / b }),
		"%":   divides(func(a, b int) int { return a % b }),
	}
}

// signs are the operators of one side.
func signs() map[string]operator {
	return map[string]operator{
		"not": {func(a, _ value) value {
			if a.kind != aTruth {
				return value{}
			}
			return truth(a.n == 0)
		}},
		"-": {func(a, _ value) value {
			if a.kind != aNumber {
				return value{}
			}
			return number(-a.n)
		}},
	}
}

// node is an expression: an operator with its sides (a sign has no right one), count or its like (count has no side), a field, or a value.
type node struct {
	op          string
	level       int // of the operator
	pairs       int // of parentheses around it in the text
	do          operator
	whole       bool // it is of all combinations together
	left, right *node
	alias, name string
	value       value
}

func showValue(v value) string {
	switch v.kind {
	case aNumber:
		return strconv.Itoa(v.n)
	case aText:
		return "'" + strings.ReplaceAll(v.s, "'", "''") + "'"
	case aTruth:
		return strconv.FormatBool(v.n == 1)
	}
	return "null"
}

// show writes an expression with all operators in parentheses.
func (n *node) show(b *strings.Builder) {
	switch {
	case n.whole:
		b.WriteString(n.op + "(")
		if n.left != nil {
			n.left.show(b)
		} else {
			b.WriteByte('*')
		}
		b.WriteByte(')')
	case n.op != "":
		b.WriteByte('(')
		if n.right != nil {
			n.left.show(b)
			b.WriteString(" " + n.op + " ")
			n.right.show(b)
		} else {
			b.WriteString(n.op + " ")
			n.left.show(b)
		}
		b.WriteByte(')')
	case n.alias != "":
		b.WriteString(n.alias + "." + n.name)
	case n.name != "":
		b.WriteString(n.name)
	default:
		b.WriteString(showValue(n.value))
	}
}

// deep returns how deep an expression is nested in signs, parentheses, and sum and its like, at a place where only operators of a level, and those that bind more strongly, stand without parentheses. A pair by itself, as Show writes it around each operator, counts only at a place that asks for it: so Show's text is nested no deeper than the text.
func (n *node) deep(level int) int {
	deep := n.pairs
	if n.op != "" && !n.whole && n.pairs == 1 && n.level >= level {
		deep = 0
	}
	switch {
	case n.left == nil:
		return deep
	case n.right == nil:
		return deep + 1 + n.left.deep(n.level)
	}
	return deep + max(n.left.deep(n.level), n.right.deep(n.level+1))
}

// any reports whether something holds for a part of an expression.
func (n *node) any(holds func(*node) bool) bool {
	return n != nil && (holds(n) || n.left.any(holds) || n.right.any(holds))
}

// combination is a row of each collection that is asked.
type combination [][]api.Prop

// scope is where an expression is evaluated: for a combination, or for all those that pass together.
type scope struct {
	aliases []string
	rows    combination
	all     []combination
	whole   bool
}

// field returns the value of a field: of the row of an alias, or of the first row that has it.
func (s *scope) field(alias, name string) value {
	for i, r := range s.rows {
		if alias != "" && s.aliases[i] != alias {
			continue
		}
		if v := find(r, name); v.kind != isNull {
			return v
		}
	}
	return value{}
}

// eval returns the value of an expression.
func (n *node) eval(s *scope) value {
	switch {
	case n.whole && s.whole:
		return n.together(s)
	case n.whole: // one combination alone is not all of them
		return value{}
	case n.name != "":
		return s.field(n.alias, n.name)
	case n.op == "":
		return n.value
	case n.right == nil:
		return n.do.do(n.left.eval(s), value{})
	}
	a := n.left.eval(s)
	return n.do.do(a, n.right.eval(s))
}

// together returns the value of count or its like.
func (n *node) together(s *scope) value {
	if n.left == nil {
		return number(len(s.all))
	}
	var l []value
	one := &scope{aliases: s.aliases}
	for _, one.rows = range s.all {
		if v := n.left.eval(one); v.kind != isNull {
			l = append(l, v)
		}
	}
	switch {
	case len(l) == 0:
		return value{}
	case n.op == "least":
		return slices.MinFunc(l, compared)
	case n.op == "greatest":
		return slices.MaxFunc(l, compared)
	}
	return sum(l)
}

// sum adds numbers up, however large the sum is in between.
func sum(l []value) value {
	const part = 1000000000
	high, low := 0, 0
	for _, v := range l {
		if v.kind != aNumber {
			return value{}
		}
		high += v.n / part
		low += v.n % part
	}
	high, low = high+low/part, low%part
	if high > maxNumber/part+1 || high < -maxNumber/part-1 {
		return value{}
	}
	return number(high*part + low)
}
