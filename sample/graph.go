package sample

import (
	"strings"

	"intermede/api"
	"intermede/kind"
)

// scope is the types around a part.
type scope struct {
	t   api.Type
	out *scope
}

// maker makes a graph: nodes are made one after the other, so that circles come up.
type maker struct {
	*Source
	known []api.Type
	g     api.Graph
	types []api.Type // of the nodes
	parts int
}

// Graph returns a graph that is valid for a type and known types; its nodes need not be in the canonical order.
func (s *Source) Graph(t api.Type, known []api.Type) api.Graph {
	for {
		m := &maker{Source: s, known: known}
		m.g.Root = m.data(t, nil, 5)
		for i := 0; i < len(m.g.Nodes); i++ {
			n := m.types[i]
			for _, kid := range n.Kids {
				d := m.data(kid, &scope{t: n}, 3) // it may make nodes
				m.g.Nodes[i].Kids = append(m.g.Nodes[i].Kids, d)
			}
		}
		if m.parts <= 400 {
			return m.g
		}
	}
}

func (m *maker) data(t api.Type, around *scope, deep int) api.Data {
	m.parts++
	for t.Kind == api.TAlias {
		t = t.Kids[0]
	}
	if t.Kind == api.TRef {
		for around.t.ID != t.ID {
			around = around.out
		}
		t, around = around.t, around.out
	}
	d := api.Data{Kind: t.Kind}
	inner := &scope{t, around}
	switch t.Kind {
	case api.TBool, api.TOctet, api.TChar, api.TEnum, api.TShort, api.TLong, api.THuge:
		d.N = m.number(t)
	case api.TText:
		n := t.N
		if n == 0 {
			n = 9
		}
		d.S = m.Text("ab\"\\ \n\xff", n)
	case api.TFixed:
		d.S = m.fixed(t)
	case api.TStruct, api.TExcept:
		for _, kid := range t.Kids {
			d.Kids = append(d.Kids, m.data(kid, inner, deep-1))
		}
	case api.TArray:
		for range t.N {
			d.Kids = append(d.Kids, m.data(t.Kids[0], around, deep-1))
		}
	case api.TSeq:
		for range m.elements(t.N, deep) {
			d.Kids = append(d.Kids, m.data(t.Kids[0], around, deep-1))
		}
	case api.TUnion:
		d.N = m.number(t.Kids[0])
		if i := chosen(t, d.N); i >= 0 {
			d.Kids = []api.Data{m.data(t.Kids[i+1], inner, deep-1)}
		}
	case api.TObject:
		d.S = m.Text("REF:0 a", 5)
	case api.TValue:
		d.N = m.node(t.ID)
	case api.TAny:
		if m.Int(3) > 0 && deep > 0 {
			d.Types = []api.Type{m.valid(1, m.known)}
			d.Kids = []api.Data{m.data(d.Types[0], nil, deep-1)}
		}
	case api.TType:
		d.Types = []api.Type{m.Type(m.known)}
	}
	return d
}

func (m *maker) number(t api.Type) int {
	for {
		if n := []int{0, 1, 2, -1, 255, -32768, 1 << 30, -1 << 62}[m.Int(8)]; kind.Fits(t, n) {
			return n
		}
	}
}

func (m *maker) elements(bound, deep int) int {
	if deep <= 0 {
		return 0
	}
	if bound == 0 || bound > 3 {
		bound = 3
	}
	return m.Int(bound + 1)
}

func (m *maker) fixed(t api.Type) string {
	digits := strings.TrimLeft(m.Text("0123456789", t.N), "0")
	if len(digits) < t.M+1 {
		digits = strings.Repeat("0", t.M+1-len(digits)) + digits
	}
	sign := ""
	if strings.Trim(digits, "0") != "" && m.Int(2) == 0 {
		sign = "-"
	}
	if t.M == 0 {
		return sign + digits
	}
	return sign + digits[:len(digits)-t.M] + "." + digits[len(digits)-t.M:]
}

func chosen(t api.Type, tag int) int {
	for i, labels := range t.Labels {
		for _, label := range labels {
			if label == tag {
				return i
			}
		}
	}
	return t.N
}

// node returns null, a node that is there, or a new one, of a type that has an id in its chain.
func (m *maker) node(id string) int {
	fits := func(t api.Type) bool {
		for _, p := range t.Chain {
			if p.ID == id {
				return true
			}
		}
		return false
	}
	for range 4 {
		if len(m.types) > 0 {
			if i := m.Int(len(m.types)); fits(m.types[i]) && m.Int(2) == 0 {
				return i
			}
		}
		if i := m.Int(len(m.known)); fits(m.known[i]) && len(m.types) < 8 {
			m.types = append(m.types, m.known[i])
			m.g.Nodes = append(m.g.Nodes, api.Node{ID: m.known[i].ID})
			return len(m.types) - 1
		}
	}
	return -1
}
