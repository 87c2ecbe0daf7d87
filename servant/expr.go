package servant

import (
	"math"
	"math/bits"

	"intermede/api"
	"intermede/data"
	"intermede/tree"
)

// failure is what expressions panic with: a system error, or an exception.
type failure struct {
	id        string
	exception bool
	data      []api.Graph
}

func fail(name string) {
	panic(failure{id: name})
}

// value is that of an expression: n of numbers and truths, s of texts and references, g of other data of the type t.
type value struct {
	n int
	s string
	t api.Type
	g api.Graph
}

// of returns the value of data of a type.
func of(t api.Type, g api.Graph) value {
	return value{n: g.Root.N, s: g.Root.S, t: bare(t), g: g}
}

// to makes data of a type of a value.
func (v value) to(t api.Type) api.Graph {
	b := bare(t)
	g := api.Graph{Root: api.Data{Kind: b.Kind}}
	switch b.Kind {
	case api.TShort, api.TLong, api.THuge, api.TOctet, api.TBool:
		if !fitsNumber(v.n, b) {
			fail("range")
		}
		g.Root.N = v.n
	case api.TText:
		if !fitsText(v.s, b) {
			fail("range")
		}
		g.Root.S = v.s
	case api.TObject:
		g.Root.S = v.s
	default:
		return compatible(v.g, v.t, b)
	}
	return g
}

// operator is what is done with two values.
type operator struct {
	do func(a, b value) value
}

func number(n int) value { return value{n: n, t: api.Type{Kind: api.THuge}} }

func truth(b bool) value {
	v := value{t: api.Type{Kind: api.TBool}}
	if b {
		v.n = 1
	}
	return v
}

func operators() map[string]operator {
	return map[string]operator{
		"+":  {func(a, b value) value { return number(sum(a.n, b.n)) }},
		"-":  {func(a, b value) value { return number(difference(a.n, b.n)) }},
		"*":  {func(a, b value) value { return number(product(a.n, b.n)) }},
		"/":  {func(a, b value) value { return number(quotient(a.n, b.n)) }},
		"%":  {func(a, b value) value { return number(remainder(a.n, b.n)) }},
		"&":  {joined},
		"==": {func(a, b value) value { return truth(same(a, b)) }},
		"!=": {func(a, b value) value { return truth(!same(a, b)) }},
		"<":  {func(a, b value) value { return truth(below(a, b)) }},
		"<=": {func(a, b value) value { return truth(!below(b, a)) }},
		">":  {func(a, b value) value { return truth(below(b, a)) }},
		">=": {func(a, b value) value { return truth(!below(a, b)) }},
	}
}

func joined(a, b value) value {
	if len(a.s)+len(b.s) > api.MaxItems {
		fail("range")
	}
	return value{s: a.s + b.s, t: api.Type{Kind: api.TText}}
}

// same compares what has numbers and texts by these, and other data as graphs.
func same(a, b value) bool {
	switch a.t.Kind {
	case api.TText, api.TObject:
		return a.s == b.s
	case api.TShort, api.TLong, api.THuge, api.TOctet, api.TBool:
		return a.n == b.n
	}
	return data.Alike(a.g, b.g)
}

func below(a, b value) bool {
	if a.t.Kind == api.TText {
		return a.s < b.s
	}
	return a.n < b.n
}

func sum(a, b int) int {
	n := a + b
	if (n > a) != (b > 0) {
		fail("range")
	}
	return n
}

func difference(a, b int) int {
	n := a - b
	if (n < a) != (b > 0) {
		fail("range")
	}
	return n
}

func magnitude(n int) uint64 {
	if n < 0 {
		return -uint64(n)
	}
	return uint64(n)
}

// product multiplies without signs, as there the upper word tells what does not fit.
func product(a, b int) int {
	upper, lower := bits.Mul64(magnitude(a), magnitude(b))
	below := (a < 0) != (b < 0)
	most := uint64(math.MaxInt)
	if below {
		most++
	}
	if upper != 0 || lower > most {
		fail("range")
	}
	if below {
		return -int(lower)
	}
	return int(lower)
}

func quotient(a, b int) int {
	if b == 0 {
		fail("zero")
	}
	if a == math.MinInt && b == -1 {
		fail("range")
	}
	return a / b
}

func remainder(a, b int) int {
	if b == 0 {
		fail("zero")
	}
	return a % b
}

// eval returns the value of an expression.
func (r *Run) eval(x *tree.Expr) value {
	switch x.Op {
	case tree.Number:
		return number(x.N)
	case tree.Text:
		return value{s: x.S, t: api.Type{Kind: api.TText}}
	case tree.True, tree.False:
		return truth(x.Op == tree.True)
	case tree.Nil:
		return value{t: api.Type{Kind: api.TObject}}
	case tree.Self:
		return value{s: r.self, t: api.Type{Kind: api.TObject}}
	case tree.Name:
		return r.get(x.S)
	case "not":
		return truth(r.eval(x.Left).n == 0)
	case "and", "or":
		left := r.eval(x.Left)
		if (left.n == 1) == (x.Op == "or") {
			return left
		}
		return r.eval(x.Right)
	}
	left := r.eval(x.Left)
	if x.Right == nil {
		return number(difference(0, left.n))
	}
	right := r.eval(x.Right)
	return operators()[x.Op].do(left, right)
}
