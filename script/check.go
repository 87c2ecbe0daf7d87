package script

import (
	"intermede/api"
	"intermede/kind"
	"intermede/tree"
)

// stop is what a checker panics with: what is wrong, and the line.
type stop struct {
	e    api.Errno
	line int
}

// must asks for something at a line.
func must(ok bool, e api.Errno, line int) {
	if !ok {
		panic(stop{e, line})
	}
}

// checked checks classes.
func checked(s *scope, l []tree.Class) (classes []*Class, line int, e api.Errno) {
	defer func() {
		switch p := recover().(type) {
		case nil:
		case stop:
			classes, line, e = nil, p.line, p.e
		default:
			classes, line, e = nil, 0, api.ErrInvalid
		}
	}()
	seen := map[string]bool{}
	for i := range l {
		must(!seen[l[i].Name], api.ErrDuplicate, l[i].Line)
		seen[l[i].Name] = true
		classes = append(classes, s.class(&l[i]))
	}
	return classes, 0, api.OK
}

// variable is a variable or a field that a name stands for.
type variable struct {
	t     api.Type
	fixed bool // it can't be assigned to
}

// method is a method that is checked, of its class.
type method struct {
	*Class
	scope  *scope
	op     api.Op
	names  map[string]variable
	called []string
}

func (s *scope) class(c *tree.Class) *Class {
	f, ok := s.resolve(c.Path)
	must(ok, api.ErrName, c.Line)
	must(f.def != nil && f.def.Kind == api.DInterface, api.ErrKind, c.Line)
	out := &Class{name: c.Name, face: f.def.ID, calls: map[string][]string{}, vars: map[string][]api.Param{}, text: tree.Format(c)}
	names := map[string]variable{}
	out.fields = s.declared(c.Fields, names)
	ops := map[string]api.Op{}
	for _, op := range s.operations(out.face) {
		ops[op.Name] = op
		out.ops = append(out.ops, op.Name)
	}
	for i := range c.Methods {
		m := &c.Methods[i]
		_, twice := out.vars[m.Name]
		must(!twice, api.ErrDuplicate, m.Line)
		op, there := ops[m.Name]
		must(there, api.ErrName, m.Line)
		s.method(out, m, op, names)
	}
	must(len(out.vars) == len(ops), api.ErrKind, c.Line)
	return out
}

// declared puts variables among the names.
func (s *scope) declared(l []tree.Variable, names map[string]variable) []api.Param {
	var out []api.Param
	for _, v := range l {
		_, twice := names[v.Name]
		must(!twice, api.ErrDuplicate, v.Line)
		t, e := s.typ(v.Type)
		must(e == api.OK, e, v.Line)
		names[v.Name] = variable{t: t}
		out = append(out, api.Param{Name: v.Name, Type: t})
	}
	return out
}

func (s *scope) method(c *Class, m *tree.Method, op api.Op, fields map[string]variable) {
	x := &method{Class: c, scope: s, op: op, names: map[string]variable{}}
	for name, v := range fields {
		x.names[name] = v
	}
	var vars []api.Param
	for _, p := range op.Params {
		_, twice := x.names[p.Name]
		must(!twice, api.ErrDuplicate, m.Line)
		x.names[p.Name] = variable{p.Type, p.Way == api.DIn}
		vars = append(vars, p)
	}
	vars = append(vars, s.declared(m.Vars, x.names)...)
	c.vars[m.Name] = vars
	tree.Each(m.Body, x.stmt)
	c.calls[m.Name] = x.called
}

// sort is what an expression is of: kinds of types that go together stand for one.
type sort int

const (
	numbers sort = iota + 1
	truths
	texts
	references
	others // data that can only be handed on
)

// value is what is known of an expression: its sort, and the type of data; of references the interface's.
type value struct {
	sort
	t api.Type
}

func sortOf(t api.Type) value {
	b := t
	for b.Kind == api.TAlias {
		b = b.Kids[0]
	}
	sorts := map[int]sort{api.TShort: numbers, api.TLong: numbers, api.THuge: numbers, api.TOctet: numbers, api.TBool: truths, api.TText: texts, api.TObject: references}
	if s, ok := sorts[b.Kind]; ok {
		return value{s, b}
	}
	return value{others, t}
}

// fits reports whether a value can be given where a type is asked.
func (v value) fits(t api.Type) bool {
	asked := sortOf(t)
	return v.sort == asked.sort && (v.sort != others || kind.Compatible(v.t, t))
}

// rule tells what an operator takes, and what it gives.
type rule struct {
	takes []sort
	gives sort
}

func rules() map[string]rule {
	reckons, compares, equals, joins := rule{[]sort{numbers}, numbers}, rule{[]sort{numbers, texts}, truths}, rule{[]sort{numbers, truths, texts, references, others}, truths}, rule{[]sort{truths}, truths}
	return map[string]rule{
		"+": reckons, "-": reckons, "*": reckons, "/": reckons, "%": reckons, "&": {[]sort{texts}, texts},
		"<": compares, "<=": compares, ">": compares, ">=": compares, "==": equals, "!=": equals, "and": joins, "or": joins, "not": joins,
	}
}

// known asks an expression for names that there are not.
func (m *method) known(x *tree.Expr, line int) {
	switch {
	case x == nil:
	case x.Left != nil:
		m.known(x.Left, line)
		m.known(x.Right, line)
	case x.Op == tree.Name:
		m.there(x.S, line)
	}
}

func (m *method) there(name string, line int) variable {
	v, ok := m.names[name]
	must(ok, api.ErrName, line)
	return v
}

func (m *method) allKnown(l []*tree.Expr, line int) {
	for _, x := range l {
		m.known(x, line)
	}
}

// value asks an expression for its kinds.
func (m *method) value(x *tree.Expr, line int) value {
	switch x.Op {
	case tree.Number:
		return value{sort: numbers}
	case tree.Text:
		return value{sort: texts}
	case tree.True, tree.False:
		return value{sort: truths}
	case tree.Nil:
		return value{sort: references}
	case tree.Self:
		return value{references, api.Type{Kind: api.TObject, ID: m.face}}
	case tree.Name:
		return sortOf(m.names[x.S].t)
	}
	left := m.value(x.Left, line)
	right := left
	if x.Right != nil {
		right = m.value(x.Right, line)
	}
	rule := rules()[x.Op]
	ok := left.sort == right.sort && (left.sort != others || kind.Equivalent(left.t, right.t))
	takes := false
	for _, s := range rule.takes {
		takes = takes || s == left.sort
	}
	must(ok && takes, api.ErrKind, line)
	return value{sort: rule.gives}
}

// given asks whether an expression can be given where a type is asked.
func (m *method) given(x *tree.Expr, t api.Type, line int) {
	v := m.value(x, line)
	must(v.fits(t), api.ErrKind, line)
}

// stmt checks the words of a statement itself: names that there are not come before kinds.
func (m *method) stmt(s tree.Stmt) {
	line := s.At()
	switch x := s.(type) {
	case *tree.Assign:
		to := m.there(x.Name, line)
		m.known(x.Value, line)
		must(!to.fixed, api.ErrKind, line)
		m.given(x.Value, to.t, line)
	case *tree.Return:
		m.known(x.Value, line)
		must((x.Value != nil) == (m.op.Result.Kind != api.TVoid), api.ErrKind, line)
		if x.Value != nil {
			m.given(x.Value, m.op.Result, line)
		}
	case *tree.Raise:
		m.raise(x, line)
	case *tree.Call:
		m.call(x, line)
	case *tree.If:
		m.cond(x.Cond, line)
	case *tree.While:
		m.cond(x.Cond, line)
	case *tree.Try:
		to := m.there(x.Name, line)
		must(!to.fixed && sortOf(to.t).sort == texts, api.ErrKind, line)
	}
}

func (m *method) cond(x *tree.Expr, line int) {
	m.known(x, line)
	v := m.value(x, line)
	must(v.sort == truths, api.ErrKind, line)
}

func (m *method) raise(x *tree.Raise, line int) {
	f, ok := m.scope.resolve(x.Path)
	must(ok, api.ErrName, line)
	m.allKnown(x.Args, line)
	raises := false
	for _, t := range m.op.Raises {
		raises = raises || f.def != nil && f.def.Kind == api.DExcept && f.def.ID == t.ID
	}
	must(raises && len(x.Args) == len(f.def.Type.Kids), api.ErrKind, line)
	for i, arg := range x.Args {
		m.given(arg, f.def.Type.Kids[i], line)
	}
}

func (m *method) call(x *tree.Call, line int) {
	var to variable
	if x.Name != "" {
		to = m.there(x.Name, line)
	}
	m.known(x.Target, line)
	m.allKnown(x.Args, line)
	target := m.value(x.Target, line)
	must(target.sort == references, api.ErrKind, line)
	var op *api.Op
	ops := m.scope.operations(target.t.ID)
	for i := range ops {
		if ops[i].Name == x.Op {
			op = &ops[i]
		}
	}
	must(op != nil, api.ErrName, line)
	m.called = append(m.called, x.Op)
	must(len(x.Args) == len(op.Params), api.ErrKind, line)
	for i, p := range op.Params {
		must(p.Way == api.DIn, api.ErrKind, line)
		m.given(x.Args[i], p.Type, line)
	}
	if x.Name != "" {
		must(!to.fixed && op.Result.Kind != api.TVoid && sortOf(op.Result).fits(to.t), api.ErrKind, line)
	}
}
