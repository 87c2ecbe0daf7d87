package stub

import (
	"slices"

	"intermede/api"
	"intermede/data"
)

// step writes or reads one thing: what is done is told by the number of its deed, and it goes on at other steps for the parts.
type step struct {
	deed  int
	t     *api.Type // without aliases at its top
	parts []int
}

// code is steps, and those for the members of known value types, by ids.
type code struct {
	steps []step
	known map[string]value
}

// value is a known value type with the steps for its members.
type value struct {
	t     *api.Type
	parts []int
}

// newCode makes the steps for known types.
func newCode(known []api.Type) *code {
	c := &code{known: map[string]value{}}
	for i := range known {
		t := &known[i]
		first := c.add(t, true)
		c.known[t.ID] = value{t, c.steps[first].parts}
	}
	return c
}

// add makes steps for a type, and returns the first one. For a value's place its members have no steps, unless they are asked for.
func (c *code) add(t *api.Type, values bool) int {
	around := map[string]int{}
	var steps func(t *api.Type, values bool) int
	steps = func(t *api.Type, values bool) int {
		for t.Kind == api.TAlias {
			t = &t.Kids[0]
		}
		if t.Kind == api.TRef {
			return around[t.ID]
		}
		n := len(c.steps)
		c.steps = append(c.steps, step{deed: t.Kind, t: t})
		if t.Kind == api.TValue && !values {
			return n
		}
		outer, there := around[t.ID]
		around[t.ID] = n
		var parts []int
		for i := range t.Kids {
			part := steps(&t.Kids[i], false)
			parts = append(parts, part)
		}
		c.steps[n].parts = parts
		delete(around, t.ID)
		if there {
			around[t.ID] = outer
		}
		return n
	}
	return steps(t, values)
}

// own is code that may grow without changing the one that it was made of.
func (c *code) own() code {
	return code{c.steps[:len(c.steps):len(c.steps)], c.known}
}

// road is the steps of a question or an answer.
type road struct {
	types []api.Type
	parts []int
	e     api.Errno // ErrLimit: its structure is too large
}

// Plan writes and reads the arguments of an operation.
type Plan struct {
	code
	types            []api.Type // that are known
	question, answer road
}

// Compile makes a plan.
func Compile(op api.Op, known []api.Type) (*Plan, api.Errno) {
	if !ValidOp(op) || !data.Known(known) {
		return nil, api.ErrInvalid
	}
	p := &Plan{}
	for _, t := range known {
		p.types = append(p.types, cloneType(t))
	}
	p.code = *newCode(p.types)
	p.question = p.road(&op, false)
	p.answer = p.road(&op, true)
	return p, api.OK
}

func (p *Plan) road(op *api.Op, answer bool) road {
	var r road
	_, r.types = members(op, answer)
	for i := range r.types {
		r.parts = append(r.parts, p.add(&r.types[i], false))
	}
	_, r.e = whole(op, answer)
	return r
}

// Steps returns the number of a plan's steps.
func (p *Plan) Steps() int {
	if p == nil {
		return 0
	}
	return len(p.steps)
}

func (p *Plan) write(r *road, args []api.Graph, big bool, at int) (string, api.Errno) {
	g, e := data.Split(r.types, p.types, args)
	if e == api.OK {
		e = r.e
	}
	if e != api.OK {
		return "", e
	}
	return written(p.own(), g.Nodes, big, at, func(w *writing) {
		for i := range g.Root.Kids {
			w.write(r.parts[i], &g.Root.Kids[i])
		}
	})
}

func (p *Plan) read(r *road, s string, big bool, at int) ([]api.Graph, int, api.Errno) {
	if r.e != api.OK {
		return nil, 0, r.e
	}
	g := api.Graph{Root: api.Data{Kind: api.TStruct}}
	nodes, bad, e := read(p.own(), s, big, at, func(m *reading) {
		g.Root.Kids = slices.Grow(g.Root.Kids, len(r.parts))[:len(r.parts)]
		m.count = min(1, len(r.parts)) // the structure itself
		for i, part := range r.parts {
			m.read(part, &g.Root.Kids[i], 2)
		}
	})
	if e != api.OK {
		return nil, bad, e
	}
	g.Nodes = nodes
	l, e := data.Parts(g)
	if e != api.OK {
		return nil, 0, e
	}
	return l, -1, api.OK
}

// WriteQuestion writes what goes in.
func (p *Plan) WriteQuestion(args []api.Graph, big bool, at int) (string, api.Errno) {
	if p == nil || !isPlace(at) {
		return "", api.ErrInvalid
	}
	return p.write(&p.question, args, big, at)
}

// ReadQuestion reads what goes in.
func (p *Plan) ReadQuestion(s string, big bool, at int) (args []api.Graph, bad int, e api.Errno) {
	if p == nil || !isPlace(at) {
		return nil, 0, api.ErrInvalid
	}
	return p.read(&p.question, s, big, at)
}

// WriteAnswer writes what comes out.
func (p *Plan) WriteAnswer(args []api.Graph, big bool, at int) (string, api.Errno) {
	if p == nil || !isPlace(at) {
		return "", api.ErrInvalid
	}
	return p.write(&p.answer, args, big, at)
}

// ReadAnswer reads what comes out.
func (p *Plan) ReadAnswer(s string, big bool, at int) (args []api.Graph, bad int, e api.Errno) {
	if p == nil || !isPlace(at) {
		return nil, 0, api.ErrInvalid
	}
	return p.read(&p.answer, s, big, at)
}

// raised returns the steps for an exception of an operation.
func raised(op *api.Op, known []api.Type, id string) (c *code, t *api.Type, first int) {
	i := slices.IndexFunc(op.Raises, func(x api.Type) bool { return x.ID == id })
	if i < 0 {
		return nil, nil, 0
	}
	c = newCode(known)
	return c, &op.Raises[i], c.add(&op.Raises[i], false)
}

// WriteException writes an exception: its id, then its data.
func WriteException(op api.Op, known []api.Type, id string, g api.Graph, big bool, at int) (string, api.Errno) {
	if !ValidOp(op) || !data.Known(known) || !isPlace(at) {
		return "", api.ErrInvalid
	}
	c, t, first := raised(&op, known, id)
	if c == nil {
		return "", api.ErrName
	}
	if !data.Valid(*t, known, g) {
		return "", api.ErrInvalid
	}
	g, _ = data.Canonical(g)
	return written(*c, g.Nodes, big, at, func(w *writing) {
		w.done(w.Text(id))
		w.write(first, &g.Root)
	})
}

// ReadException reads an exception.
func ReadException(op api.Op, known []api.Type, s string, big bool, at int) (id string, g api.Graph, bad int, e api.Errno) {
	if !ValidOp(op) || !data.Known(known) || !isPlace(at) {
		return "", api.Graph{}, 0, api.ErrInvalid
	}
	nodes, bad, e := read(code{}, s, big, at, func(m *reading) {
		var place int
		id, place = m.text(api.MaxBytes)
		c, _, first := raised(&op, known, id)
		if c == nil {
			panic(stop(place))
		}
		m.code = *c
		m.read(first, &g.Root, 1)
	})
	if e != api.OK {
		return "", api.Graph{}, bad, e
	}
	g.Nodes = nodes
	return id, g, -1, api.OK
}
