package data

import (
	"strings"

	"intermede/api"
	"intermede/fixed"
	"intermede/kind"
)

// maxObject is the most bytes of the text of an object.
const maxObject = 1000

// The fields that data may have.
const (
	hasN = 1 << iota
	hasS
	hasKids
	hasTypes
)

// shape tells what data of a kind has: its fields, and whether they are right for a type.
type shape struct {
	fields int
	right  func(c *checker, t *api.Type, d *api.Data) bool
}

func shapes() [api.TRef]shape {
	number := shape{hasN, func(c *checker, t *api.Type, d *api.Data) bool { return kind.Fits(*t, d.N) }}
	members := shape{hasKids, func(c *checker, t *api.Type, d *api.Data) bool { return len(d.Kids) == len(t.Kids) }}
	return [api.TRef]shape{
		api.TVoid: {0, func(*checker, *api.Type, *api.Data) bool { return true }},
		api.TBool: number, api.TOctet: number, api.TChar: number, api.TShort: number, api.TLong: number, api.THuge: number, api.TEnum: number,
		api.TText: {hasS, func(c *checker, t *api.Type, d *api.Data) bool {
			return len(d.S) <= bound(t) && strings.IndexByte(d.S, 0) < 0
		}},
		api.TFixed:  {hasS, func(c *checker, t *api.Type, d *api.Data) bool { return fixed.Fits(d.S, t.N, t.M) }},
		api.TStruct: members,
		api.TExcept: members,
		api.TUnion:  {hasN | hasKids, rightUnion},
		api.TSeq:    {hasKids, func(c *checker, t *api.Type, d *api.Data) bool { return len(d.Kids) <= bound(t) }},
		api.TArray:  {hasKids, func(c *checker, t *api.Type, d *api.Data) bool { return len(d.Kids) == t.N }},
		api.TObject: {hasS, func(c *checker, t *api.Type, d *api.Data) bool { return len(d.S) <= maxObject && printable(d.S) }},
		api.TValue:  {hasN, func(c *checker, t *api.Type, d *api.Data) bool { return c.leads(t, d.N) }},
		api.TAny:    {hasKids | hasTypes, rightAny},
		api.TType:   {hasTypes, func(c *checker, t *api.Type, d *api.Data) bool { return len(d.Types) == 1 && kind.Valid(d.Types[0]) }},
	}
}

// bound is that of a text or a sequence.
func bound(t *api.Type) int {
	if t.N == 0 {
		return api.MaxItems
	}
	return t.N
}

func printable(s string) bool {
	for i := range len(s) {
		if s[i] < ' ' || s[i] > '~' {
			return false
		}
	}
	return true
}

func rightUnion(c *checker, t *api.Type, d *api.Data) bool {
	n := 0
	if chosen(t, d.N) >= 0 {
		n = 1
	}
	return kind.Fits(t.Kids[0], d.N) && len(d.Kids) == n
}

func rightAny(c *checker, t *api.Type, d *api.Data) bool {
	if len(d.Types) == 0 {
		return len(d.Kids) == 0
	}
	return len(d.Types) == 1 && len(d.Kids) == 1 && canWrap(d.Types[0]) && kind.Valid(d.Types[0])
}

// canWrap reports whether an any may have a value of a type.
func canWrap(t api.Type) bool {
	return t.Kind != api.TVoid && t.Kind != api.TExcept
}

// checker asks data for validity.
type checker struct {
	lookup
	nodes []api.Node
	parts int
}

// leads reports whether data of a value type may lead to a node.
func (c *checker) leads(t *api.Type, n int) bool {
	if n < 0 || n >= len(c.nodes) {
		return n == -1
	}
	known := c.types[c.nodes[n].ID]
	return known != nil && inChain(known, t.ID) >= 0
}

func (c *checker) right(x typ, d *api.Data, level int) bool {
	c.parts++
	x = x.bare()
	if c.parts > api.MaxItems || level > api.MaxDeep || d.Kind != x.t.Kind {
		return false
	}
	has := shapes()[d.Kind]
	if fields(d)&^has.fields != 0 || !has.right(c, x.t, d) {
		return false
	}
	for kid, part := range x.members(d) {
		if !c.right(kid, part, level+1) {
			return false
		}
	}
	return true
}

// fields tells which fields of data are not zero.
func fields(d *api.Data) int {
	set := 0
	for i, there := range [...]bool{d.N != 0, d.S != "", len(d.Kids) > 0, len(d.Types) > 0} {
		if there {
			set |= 1 << i
		}
	}
	return set
}

// node asks a node for its type, and its members.
func (c *checker) node(n *api.Node) bool {
	t := c.types[n.ID]
	if t == nil || len(n.Kids) != len(t.Kids) {
		return false
	}
	x := typ{t: t}
	for i := range n.Kids {
		if !c.right(x.kid(i), &n.Kids[i], 1) {
			return false
		}
	}
	return true
}

// Valid reports whether a graph is valid for a type and known types.
func Valid(t api.Type, known []api.Type, g api.Graph) bool {
	if !kind.Valid(t) || !Known(known) || len(g.Nodes) > api.MaxSize {
		return false
	}
	c := &checker{lookup: look(known), nodes: g.Nodes}
	if !c.right(typ{t: &t}, &g.Root, 1) {
		return false
	}
	for i := range g.Nodes {
		if !c.node(&g.Nodes[i]) {
			return false
		}
	}
	return true
}
