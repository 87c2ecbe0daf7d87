package macro

import (
	"math"
	"math/bits"
	"strconv"

	"intermede/api"
)

// Value returns the value of an expression.
func Value(expr string, l []api.Macro) (n int, e api.Errno) {
	if isLong(expr) {
		return 0, api.ErrLong
	}
	macros, ok := known(l)
	if !ok {
		return 0, api.ErrInvalid
	}
	defer func() {
		if p := recover(); p != nil {
			n, e = 0, caught(p)
		}
	}()
	r := &replacer{macros: macros}
	return r.value(texts(scan(expr))), api.OK
}

// value is that of the words of an expression. What is defined is asked before macros are replaced.
func (r *replacer) value(words []string) int {
	p := &parser{words: r.line(r.asked(words))}
	x := p.binary(0)
	if p.at < len(p.words) {
		panic(wrong{api.ErrSyntax})
	}
	if p.over {
		panic(wrong{api.ErrRange})
	}
	return x()
}

// asked puts 1 or 0 in the place of each `defined NAME`.
func (r *replacer) asked(words []string) []string {
	var out []string
	for i := 0; i < len(words); i++ {
		if words[i] != "defined" {
			out = append(out, words[i])
			continue
		}
		rest := words[i+1:]
		name := ""
		if len(rest) > 0 && isName(rest[0]) {
			name = rest[0]
			i++
		} else if len(rest) > 2 && rest[0] == "(" && isName(rest[1]) && rest[2] == ")" {
			name = rest[1]
			i += 3
		} else {
			panic(wrong{api.ErrSyntax})
		}
		_, there := r.macros[name]
		out = append(out, strconv.Itoa(truth(there)))
	}
	return out
}

func truth(b bool) int {
	if b {
		return 1
	}
	return 0
}

// term is an expression that was read: it is asked for its value only if it counts.
type term func() int

// parser reads an expression.
type parser struct {
	words []string
	at    int
	over  bool // a number is beyond int
}

func (p *parser) is(word string) bool {
	if p.at < len(p.words) && p.words[p.at] == word {
		p.at++
		return true
	}
	return false
}

// maxLevel is one more than the level of the operators that bind most.
const maxLevel = 6

// level tells how strongly an operator of two sides binds; -1 if it is none.
func level(word string) int {
	switch word {
	case "||":
		return 0
	case "&&":
		return 1
	case "==", "!=":
		return 2
	case "<", "<=", ">", ">=":
		return 3
	case "+", "-":
		return 4
	case "*", "/", "%":
		return 5
	}
	return -1
}

// binary reads operands of operators of a level, from the left.
func (p *parser) binary(n int) term {
	if n == maxLevel {
		return p.unary()
	}
	left := p.binary(n + 1)
	for p.at < len(p.words) && level(p.words[p.at]) == n {
		op := p.words[p.at]
		p.at++
		left = both(op, left, p.binary(n+1))
	}
	return left
}

func (p *parser) unary() term {
	switch {
	case p.is("!"):
		x := p.unary()
		return func() int { return truth(x() == 0) }
	case p.is("-"):
		x := p.unary()
		return func() int { return difference(0, x()) }
	case p.is("("):
		x := p.binary(0)
		if !p.is(")") {
			panic(wrong{api.ErrSyntax})
		}
		return x
	}
	return p.operand()
}

func (p *parser) operand() term {
	if p.at == len(p.words) || p.words[p.at] == "defined" {
		panic(wrong{api.ErrSyntax})
	}
	word := p.words[p.at]
	p.at++
	if isName(word) {
		return func() int { return 0 }
	}
	if run(word, 0, isDigit) < len(word) {
		panic(wrong{api.ErrSyntax})
	}
	n, err := strconv.Atoi(word)
	p.over = p.over || err != nil
	return func() int { return n }
}

// both is the term of an operator of two sides.
func both(op string, left, right term) term {
	switch op {
	case "||":
		return func() int { return truth(left() != 0 || right() != 0) }
	case "&&":
		return func() int { return truth(left() != 0 && right() != 0) }
	}
	return func() int {
		a := left()
		b := right()
		return reckoned(op, a, b)
	}
}

func reckoned(op string, a, b int) int {
	switch op {
	case "==":
		return truth(a == b)
	case "!=":
		return truth(a != b)
	case "<":
		return truth(a < b)
	case "<=":
		return truth(a <= b)
	case ">":
		return truth(a > b)
	case ">=":
		return truth(a >= b)
	case "+":
		return sum(a, b)
	case "-":
		return difference(a, b)
	case "*":
		return product(a, b)
	}
	if b == 0 || op == "/" && a == math.MinInt && b == -1 {
		panic(wrong{api.ErrRange})
	}
	if op == "/" {
		return a / b
	}
	return a % b
}

func sum(a, b int) int {
	if n := a + b; (n > a) == (b > 0) {
		return n
	}
	panic(wrong{api.ErrRange})
}

func difference(a, b int) int {
	if n := a - b; (n < a) == (b > 0) {
		return n
	}
	panic(wrong{api.ErrRange})
}

// product multiplies without signs, as there the upper word tells what does not fit.
func product(a, b int) int {
	upper, lower := bits.Mul64(magnitude(a), magnitude(b))
	most := uint64(math.MaxInt)
	below := (a < 0) != (b < 0)
	if below {
		most++
	}
	if upper != 0 || lower > most {
		panic(wrong{api.ErrRange})
	}
	if below {
		return -int(lower)
	}
	return int(lower)
}

func magnitude(n int) uint64 {
	if n < 0 {
		return -uint64(n)
	}
	return uint64(n)
}
