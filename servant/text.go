package servant

import (
	"strconv"
	"strings"

	"intermede/api"
	"intermede/data"
)

// writer writes numbers, each with a blank behind it, and texts behind their lengths.
type writer struct{ strings.Builder }

func (w *writer) number(n int) { w.WriteString(strconv.Itoa(n) + " ") }

func (w *writer) text(s string) {
	w.number(len(s))
	w.WriteString(s)
}

func (w *writer) data(l []api.Data) {
	w.number(len(l))
	for _, d := range l {
		w.number(d.Kind)
		w.number(d.N)
		w.text(d.S)
		w.data(d.Kids)
		w.types(d.Types)
	}
}

func (w *writer) types(l []api.Type) {
	w.number(len(l))
	for _, t := range l {
		w.number(t.Kind)
		w.text(t.ID)
		w.text(t.Name)
		w.number(t.N)
		w.number(t.M)
		w.number(len(t.Names))
		for _, name := range t.Names {
			w.text(name)
		}
		w.types(t.Kids)
		w.number(len(t.Labels))
		for _, labels := range t.Labels {
			w.number(len(labels))
			for _, label := range labels {
				w.number(label)
			}
		}
		w.number(len(t.Chain))
		for _, p := range t.Chain {
			w.text(p.ID)
			w.number(p.N)
			w.number(truth(p.Trunc).n)
		}
	}
}

func (w *writer) graph(g api.Graph) {
	w.data([]api.Data{g.Root})
	w.number(len(g.Nodes))
	for _, n := range g.Nodes {
		w.text(n.ID)
		w.data(n.Kids)
	}
}

// Text returns the fields in a form of their own.
func (s *Servant) Text() string {
	if s == nil {
		return ""
	}
	w := &writer{}
	w.text(s.class)
	for _, g := range s.values {
		w.graph(g)
	}
	return w.String()
}

// reader reads what a writer wrote; what is wrong leaves by a panic.
type reader struct{ s string }

func (r *reader) number() int {
	word, rest, ok := strings.Cut(r.s, " ")
	n, err := strconv.Atoi(word)
	if !ok || err != nil || strconv.Itoa(n) != word {
		panic(failure{})
	}
	r.s = rest
	return n
}

// count takes a number of things that have a byte each at least.
func (r *reader) count() int {
	n := r.number()
	if n < 0 || n > len(r.s) {
		panic(failure{})
	}
	return n
}

func (r *reader) text() string {
	n := r.count()
	s := r.s[:n]
	r.s = r.s[n:]
	return s
}

func (r *reader) data() []api.Data {
	var l []api.Data
	for range r.count() {
		var d api.Data
		d.Kind = r.number()
		d.N = r.number()
		d.S = r.text()
		d.Kids = r.data()
		d.Types = r.types()
		l = append(l, d)
	}
	return l
}

func (r *reader) types() []api.Type {
	var l []api.Type
	for range r.count() {
		var t api.Type
		t.Kind = r.number()
		t.ID = r.text()
		t.Name = r.text()
		t.N = r.number()
		t.M = r.number()
		for range r.count() {
			t.Names = append(t.Names, r.text())
		}
		t.Kids = r.types()
		for range r.count() {
			var labels []int
			for range r.count() {
				labels = append(labels, r.number())
			}
			t.Labels = append(t.Labels, labels)
		}
		for range r.count() {
			p := api.Part{ID: r.text()}
			p.N = r.number()
			p.Trunc = r.number() > 0
			t.Chain = append(t.Chain, p)
		}
		l = append(l, t)
	}
	return l
}

func (r *reader) graph() api.Graph {
	root := r.data()
	if len(root) != 1 {
		panic(failure{})
	}
	g := api.Graph{Root: root[0]}
	for range r.count() {
		n := api.Node{ID: r.text()}
		n.Kids = r.data()
		g.Nodes = append(g.Nodes, n)
	}
	return g
}

// Restore sets the fields from a text of a servant of the same class.
func (s *Servant) Restore(text string) (e api.Errno) {
	if s == nil {
		return api.ErrInvalid
	}
	defer func() {
		if p := recover(); p != nil {
			e = api.ErrSyntax
		}
	}()
	r := &reader{text}
	ok := r.text() == s.class
	var values []api.Graph
	for _, f := range s.fields {
		g := r.graph()
		ok = ok && data.Valid(f.Type, s.known, g)
		values = append(values, clone(g))
	}
	if !ok || r.s != "" {
		return api.ErrSyntax
	}
	s.values = values
	return api.OK
}
