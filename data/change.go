package data

import (
	"strings"

	"intermede/api"
	"intermede/kind"
)

// least makes the least data of types, as long as it has not too many parts.
type least struct{ parts int }

// Default returns the data of a type that is least.
func Default(t api.Type) (api.Graph, api.Errno) {
	if !kind.Valid(t) {
		return api.Graph{}, api.ErrInvalid
	}
	l := &least{}
	d := l.data(typ{t: &t})
	if l.parts > api.MaxItems {
		return api.Graph{}, api.ErrLimit
	}
	return api.Graph{Root: d}, api.OK
}

func (l *least) data(x typ) api.Data {
	l.parts++
	x = x.bare()
	d := api.Data{Kind: x.t.Kind}
	if l.parts > api.MaxItems {
		return d
	}
	switch d.Kind {
	case api.TFixed:
		d.S = "0"
		if x.t.M > 0 {
			d.S += "." + strings.Repeat("0", x.t.M)
		}
	case api.TStruct, api.TExcept:
		for i := range x.t.Kids {
			d.Kids = append(d.Kids, l.data(x.kid(i)))
		}
	case api.TArray:
		for range x.t.N {
			if l.parts > api.MaxItems {
				break
			}
			d.Kids = append(d.Kids, l.data(x.kid(0)))
		}
	case api.TUnion:
		d.N = leastTag(x.t)
		if i := chosen(x.t, d.N); i >= 0 {
			d.Kids = []api.Data{l.data(x.kid(i + 1))}
		}
	case api.TValue:
		d.N = -1
	case api.TType:
		d.Types = []api.Type{{Kind: api.TVoid}}
	}
	return d
}

// leastTag is the least of a union's labels and of its least free tag.
func leastTag(t *api.Type) int {
	tag := 0
	for kind.Fits(t.Kids[0], tag) && labelled(t, tag) >= 0 {
		tag++
	}
	found := kind.Fits(t.Kids[0], tag)
	for _, labels := range t.Labels {
		for _, label := range labels {
			if !found || label < tag {
				tag, found = label, true
			}
		}
	}
	return tag
}

// cutter sees graphs as one that knows fewer types: nodes are kept as they are seen, by their numbers.
type cutter struct {
	lookup
	fewer lookup
	g     *api.Graph
	seen  map[int]*api.Type
	lost  bool
}

// as returns the type as which a node is seen, nil if there is none.
func (c *cutter) as(id string) *api.Type {
	chain := c.types[id].Chain
	for i := len(chain) - 1; i >= 0; i-- {
		if t := c.fewer.types[chain[i].ID]; t != nil {
			return t
		}
		if !chain[i].Trunc {
			break
		}
	}
	return nil
}

func (c *cutter) walk(x typ, d *api.Data) {
	x = x.bare()
	if d.Kind == api.TValue && d.N >= 0 {
		c.node(x.t, d.N)
	}
	for kid, part := range x.members(d) {
		c.walk(kid, part)
	}
}

func (c *cutter) node(place *api.Type, n int) {
	t, met := c.seen[n]
	if !met {
		t = c.as(c.g.Nodes[n].ID)
	}
	if t == nil || inChain(t, place.ID) < 0 {
		c.lost = true
		return
	}
	if met {
		return
	}
	c.seen[n] = t
	x := typ{t: t}
	for i := range t.Kids {
		c.walk(x.kid(i), &c.g.Nodes[n].Kids[i])
	}
}

// agree reports whether fewer types may stand for known ones.
func agree(known, fewer []api.Type) bool {
	for i := range known {
		for j := range fewer {
			if known[i].ID == fewer[j].ID && !kind.Equal(known[i], fewer[j]) || !begins(&fewer[j], &known[i]) {
				return false
			}
		}
	}
	return true
}

// Truncated returns a graph as one that knows fewer types sees it.
func Truncated(t api.Type, known, fewer []api.Type, g api.Graph) (api.Graph, api.Errno) {
	if !kind.Valid(t) || !Known(known) || !Known(fewer) || !agree(known, fewer) || !Valid(t, known, g) {
		return api.Graph{}, api.ErrInvalid
	}
	c := &cutter{lookup: look(known), fewer: look(fewer), g: &g, seen: map[int]*api.Type{}}
	c.walk(typ{t: &t}, &g.Root)
	if c.lost {
		return api.Graph{}, api.ErrNone
	}
	// Nodes that are not reached any more are left as they are: the canonical form leaves them out.
	out := api.Graph{Root: g.Root, Nodes: append([]api.Node(nil), g.Nodes...)}
	for n := range out.Nodes {
		if t := c.seen[n]; t != nil {
			out.Nodes[n] = api.Node{ID: t.ID, Kids: g.Nodes[n].Kids[:len(t.Kids)]}
		}
	}
	return canonical(&out), api.OK
}

// within returns a canonical graph, if there is not too much in it.
func within(g api.Graph) (api.Graph, api.Errno) {
	if m := measured(&g); m.full() {
		return api.Graph{}, api.ErrLimit
	}
	return g, api.OK
}

// Any wraps a graph into an any of its type.
func Any(t api.Type, known []api.Type, g api.Graph) (api.Graph, api.Errno) {
	if !Valid(t, known, g) {
		return api.Graph{}, api.ErrInvalid
	}
	if !canWrap(t) {
		return api.Graph{}, api.ErrKind
	}
	g = canonical(&g)
	g.Root = api.Data{Kind: api.TAny, Types: []api.Type{cloneType(t)}, Kids: []api.Data{g.Root}}
	return within(g)
}

// Take takes the data out of an any.
func Take(t api.Type, known []api.Type, g api.Graph) (api.Graph, api.Errno) {
	if !kind.Valid(t) || !Known(known) || !loose(&g) {
		return api.Graph{}, api.ErrInvalid
	}
	if g.Root.Kind != api.TAny {
		return api.Graph{}, api.ErrKind
	}
	if !Valid(api.Type{Kind: api.TAny}, known, g) {
		return api.Graph{}, api.ErrInvalid
	}
	if len(g.Root.Types) == 0 || !kind.Compatible(g.Root.Types[0], t) {
		return api.Graph{}, api.ErrKind
	}
	return canonical(&api.Graph{Root: g.Root.Kids[0], Nodes: g.Nodes}), api.OK
}

// shift gives the nodes to which values in data lead other numbers.
func shift(d *api.Data, by int) {
	if d.Kind == api.TValue && d.N >= 0 {
		d.N += by
	}
	for i := range d.Kids {
		shift(&d.Kids[i], by)
	}
}

// Split puts data of several types into one graph.
func Split(types []api.Type, known []api.Type, l []api.Graph) (api.Graph, api.Errno) {
	for _, t := range types {
		if !kind.Valid(t) {
			return api.Graph{}, api.ErrInvalid
		}
	}
	if !Known(known) {
		return api.Graph{}, api.ErrInvalid
	}
	if len(types) != len(l) {
		return api.Graph{}, api.ErrSize
	}
	for i, g := range l {
		if !Valid(types[i], known, g) {
			return api.Graph{}, api.ErrInvalid
		}
	}
	out := api.Graph{Root: api.Data{Kind: api.TStruct}}
	for i := range l {
		part := canonical(&l[i])
		for d := range roots(&part) {
			shift(d, len(out.Nodes))
		}
		out.Root.Kids = append(out.Root.Kids, part.Root)
		out.Nodes = append(out.Nodes, part.Nodes...)
	}
	return within(out)
}

// Parts takes a graph of a structure apart.
func Parts(g api.Graph) ([]api.Graph, api.Errno) {
	if !loose(&g) {
		return nil, api.ErrInvalid
	}
	if g.Root.Kind != api.TStruct {
		return nil, api.ErrKind
	}
	var l []api.Graph
	for _, d := range g.Root.Kids {
		l = append(l, canonical(&api.Graph{Root: d, Nodes: g.Nodes}))
	}
	return l, api.OK
}
