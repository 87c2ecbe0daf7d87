package data

import (
	"iter"
	"slices"

	"intermede/api"
)

// roots goes through the data of a graph that is no part of other data: its root, and the members of its nodes.
func roots(g *api.Graph) iter.Seq[*api.Data] {
	return func(yield func(*api.Data) bool) {
		if !yield(&g.Root) {
			return
		}
		for i := range g.Nodes {
			for j := range g.Nodes[i].Kids {
				if !yield(&g.Nodes[i].Kids[j]) {
					return
				}
			}
		}
	}
}

// measure is what is asked of a graph whatever its types are.
type measure struct {
	nodes, parts, levels int
	astray               bool // a value leads to no node
}

// full reports whether there is too much of something.
func (m *measure) full() bool {
	return m.parts > api.MaxItems || m.levels > api.MaxDeep || m.nodes > api.MaxSize
}

func (m *measure) walk(d *api.Data, level int) {
	m.parts++
	m.levels = max(m.levels, level)
	m.astray = m.astray || d.Kind == api.TValue && (d.N < -1 || d.N >= m.nodes)
	for i := range d.Kids {
		if m.full() {
			return
		}
		m.walk(&d.Kids[i], level+1)
	}
}

func measured(g *api.Graph) measure {
	m := measure{nodes: len(g.Nodes)}
	for d := range roots(g) {
		if m.full() {
			break
		}
		m.walk(d, 1)
	}
	return m
}

// loose reports whether a graph is valid as far as no type tells.
func loose(g *api.Graph) bool {
	m := measured(g)
	return !m.full() && !m.astray
}

// Size returns the number of parts of a graph's data.
func Size(g api.Graph) int {
	if !loose(&g) {
		return 0
	}
	m := measured(&g)
	return m.parts
}

// Canonical returns the canonical form of a graph.
func Canonical(g api.Graph) (api.Graph, api.Errno) {
	if !loose(&g) {
		return api.Graph{}, api.ErrInvalid
	}
	return canonical(&g), api.OK
}

// canonical numbers the nodes of a graph as they are met first; those that are not met are left out.
func canonical(g *api.Graph) api.Graph {
	var out api.Graph
	numbers := map[int]int{}
	var down func(d *api.Data) api.Data
	list := func(l []api.Data) []api.Data {
		var kids []api.Data
		for i := range l {
			kids = append(kids, down(&l[i]))
		}
		return kids
	}
	down = func(d *api.Data) api.Data {
		to := *d
		if d.Kind == api.TValue && d.N >= 0 {
			n, met := numbers[d.N]
			if !met {
				n = len(out.Nodes)
				numbers[d.N] = n
				out.Nodes = append(out.Nodes, api.Node{ID: g.Nodes[d.N].ID})
				kids := list(g.Nodes[d.N].Kids)
				out.Nodes[n].Kids = kids
			}
			to.N = n
		}
		to.Kids, to.Types = list(d.Kids), cloneTypes(d.Types)
		return to
	}
	out.Root = down(&g.Root)
	return out
}

// Alike reports whether two graphs have equal canonical forms.
func Alike(a, b api.Graph) bool {
	if !loose(&a) || !loose(&b) {
		return false
	}
	x, y := canonical(&a), canonical(&b)
	return Equal(x.Root, y.Root) && slices.EqualFunc(x.Nodes, y.Nodes, func(m, n api.Node) bool {
		return m.ID == n.ID && slices.EqualFunc(m.Kids, n.Kids, Equal)
	})
}

// leads goes through the nodes to which values in data lead.
func leads(d *api.Data, told func(int)) {
	if d.Kind == api.TValue && d.N >= 0 {
		told(d.N)
	}
	for i := range d.Kids {
		leads(&d.Kids[i], told)
	}
}

// Shared returns the nodes to which more than one value leads.
func Shared(g api.Graph) ([]int, api.Errno) {
	g, e := Canonical(g)
	if e != api.OK {
		return nil, e
	}
	counts := make([]int, len(g.Nodes))
	for d := range roots(&g) {
		leads(d, func(n int) { counts[n]++ })
	}
	var shared []int
	for n, count := range counts {
		if count > 1 {
			shared = append(shared, n)
		}
	}
	return shared, api.OK
}

// Circle reports whether a node leads to itself.
func Circle(g api.Graph) (bool, api.Errno) {
	g, e := Canonical(g)
	if e != api.OK {
		return false, e
	}
	const (
		under = 1
		done  = 2
	)
	state := make([]int, len(g.Nodes))
	found := false
	var visit func(n int)
	visit = func(n int) {
		found = found || state[n] == under
		if state[n] != 0 {
			return
		}
		state[n] = under
		for i := range g.Nodes[n].Kids {
			leads(&g.Nodes[n].Kids[i], visit)
		}
		state[n] = done
	}
	leads(&g.Root, visit)
	return found, api.OK
}
