package codec

import (
	"intermede/api"
	"intermede/cdr"
	"intermede/data"
	"intermede/fixed"
)

// writer writes types and data: the places of values that were written are kept by the numbers of their nodes.
type writer struct {
	*cdr.Writer
	known  lookup
	nodes  []api.Node
	places map[int]int
}

// full is what a writer panics with: there is no room for more bytes.
type full struct{}

func (w *writer) done(e api.Errno) {
	if e != api.OK {
		panic(full{})
	}
}

// written tells what a function writes.
func written(big bool, at int, write func(*writer)) (s string, e api.Errno) {
	defer func() {
		if p := recover(); p != nil {
			s, e = "", api.ErrLimit
		}
	}()
	w := &writer{Writer: cdr.NewWriter(big, at), places: map[int]int{}}
	write(w)
	return w.All(), api.OK
}

func (w *writer) long(n int) { w.done(w.Long(n)) }

func (w *writer) text(s string) { w.done(w.Text(s)) }

func (w *writer) octet(n int) { w.done(w.Octet(n)) }

func (w *writer) typ(t *api.Type) {
	w.octet(t.Kind)
	switch t.Kind {
	case api.TText, api.TSeq, api.TArray:
		w.long(t.N)
	case api.TFixed:
		w.octet(t.N)
		w.octet(t.M)
	case api.TEnum, api.TStruct, api.TExcept, api.TUnion, api.TAlias, api.TObject:
		w.text(t.ID)
		w.text(t.Name)
	case api.TValue:
		w.text(t.Name)
	case api.TRef:
		w.text(t.ID)
	}
	switch t.Kind {
	case api.TEnum:
		w.long(len(t.Names))
		for _, name := range t.Names {
			w.text(name)
		}
	case api.TStruct, api.TExcept:
		w.memberTypes(t)
	case api.TUnion:
		w.union(t)
	case api.TSeq, api.TArray, api.TAlias:
		w.typ(&t.Kids[0])
	case api.TValue:
		w.long(len(t.Chain))
		for _, part := range t.Chain {
			w.text(part.ID)
			w.long(part.N)
			w.done(w.Flag(part.Trunc))
		}
		w.memberTypes(t)
	}
}

func (w *writer) memberTypes(t *api.Type) {
	w.long(len(t.Names))
	for i, name := range t.Names {
		w.text(name)
		w.typ(&t.Kids[i])
	}
}

func (w *writer) union(t *api.Type) {
	w.typ(&t.Kids[0])
	w.long(t.N)
	w.long(len(t.Names))
	for i, name := range t.Names {
		w.text(name)
		w.typ(&t.Kids[i+1])
		w.long(len(t.Labels[i]))
		for _, label := range t.Labels[i] {
			w.long(label)
		}
	}
}

// graph writes the canonical form of a graph that is valid.
func (w *writer) graph(t *api.Type, known []api.Type, g api.Graph) {
	g, _ = data.Canonical(g)
	w.known, w.nodes = look(known), g.Nodes
	w.data(typ{t: t}, &g.Root)
}

// form tells how data of a kind are written.
type form struct {
	write func(w *writer, x typ, d *api.Data)
}

func forms() [api.TRef]form {
	octet := form{func(w *writer, x typ, d *api.Data) { w.octet(d.N) }}
	members := form{func(w *writer, x typ, d *api.Data) {
		for i := range d.Kids {
			w.data(x.kid(i), &d.Kids[i])
		}
	}}
	return [api.TRef]form{
		api.TVoid: {func(*writer, typ, *api.Data) {}},
		api.TBool: octet, api.TOctet: octet, api.TChar: octet,
		api.TShort:  {func(w *writer, x typ, d *api.Data) { w.done(w.Short(d.N)) }},
		api.TLong:   {func(w *writer, x typ, d *api.Data) { w.long(d.N) }},
		api.THuge:   {func(w *writer, x typ, d *api.Data) { w.done(w.Huge(d.N)) }},
		api.TText:   {func(w *writer, x typ, d *api.Data) { w.text(d.S) }},
		api.TFixed:  {(*writer).fixed},
		api.TEnum:   {func(w *writer, x typ, d *api.Data) { w.long(d.N) }},
		api.TStruct: members, api.TExcept: members,
		api.TUnion:  {(*writer).chosen},
		api.TSeq:    {func(w *writer, x typ, d *api.Data) { w.long(len(d.Kids)); w.elements(x, d) }},
		api.TArray:  {(*writer).elements},
		api.TObject: {func(w *writer, x typ, d *api.Data) { w.text(d.S) }},
		api.TValue:  {func(w *writer, x typ, d *api.Data) { w.value(d.N) }},
		api.TAny:    {(*writer).any},
		api.TType:   {func(w *writer, x typ, d *api.Data) { w.typ(&d.Types[0]) }},
	}
}

func (w *writer) data(x typ, d *api.Data) {
	x = x.bare()
	forms()[x.t.Kind].write(w, x, d)
}

func (w *writer) fixed(x typ, d *api.Data) {
	s, _ := fixed.Pack(d.S, x.t.N, x.t.M)
	w.done(w.Raw(s))
}

func (w *writer) chosen(x typ, d *api.Data) {
	w.data(x.kid(0), &api.Data{N: d.N})
	for i := range d.Kids {
		w.data(x.kid(chosen(x.t, d.N)+1), &d.Kids[i])
	}
}

func (w *writer) elements(x typ, d *api.Data) {
	for i := range d.Kids {
		w.data(x.kid(0), &d.Kids[i])
	}
}

func (w *writer) any(x typ, d *api.Data) {
	w.octet(len(d.Types))
	for i := range d.Types {
		w.typ(&d.Types[i])
		w.data(typ{t: &d.Types[i]}, &d.Kids[i])
	}
}

func (w *writer) value(n int) {
	if n < 0 {
		w.long(0)
		return
	}
	if place, ok := w.places[n]; ok {
		w.long(-1)
		w.long(place)
		return
	}
	w.long(1)
	w.places[n] = w.Place() - 4
	node := &w.nodes[n]
	t := w.known[node.ID]
	w.ids(t.Chain)
	w.long(len(t.Chain))
	x, first := typ{t: t}, 0
	for _, part := range t.Chain {
		w.long(0)
		from := w.Place()
		for i := first; i < part.N; i++ {
			w.data(x.kid(i), &node.Kids[i])
		}
		w.done(w.Put(from-4, w.Place()-from))
		first = part.N
	}
}

// ids writes the id of a value's type, and those of the parts to which it may be truncated.
func (w *writer) ids(chain []api.Part) {
	first := len(chain) - 1
	for chain[first].Trunc {
		first--
	}
	w.long(len(chain) - first)
	for i := len(chain) - 1; i >= first; i-- {
		w.text(chain[i].ID)
	}
}
