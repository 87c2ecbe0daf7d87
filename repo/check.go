package repo

import (
	"math"
	"slices"
	"strconv"
	"strings"

	"intermede/api"
	"intermede/copies"
	"intermede/idl"
	"intermede/kind"
)

// maxChain is the most parts of a valuetype's chain, maxLabels the most labels of a union, maxVersion the greatest number of a version.
const (
	maxChain   = 6
	maxLabels  = 256
	maxVersion = 999
)

// book is what is kept while declarations are checked.
type book struct {
	given    map[string]string // the versions by paths, those that are not there are 1.0
	versions map[string]string // those that were declared so far
	defs     []api.Def
	forwards []*entry
	at       string // the path of what is checked
}

// checker checks the declarations of a scope.
type checker struct {
	*scope
	*book
}

// stop is what a checker panics with: what is wrong, and the path of the declaration.
type stop struct {
	e    api.Errno
	path string
}

func (c *checker) wrong(e api.Errno) {
	panic(stop{e, c.at})
}

// run checks all declarations, with versions that are known before.
func run(l []api.Decl, given map[string]string) (b *book, path string, e api.Errno) {
	b = &book{given: given, versions: map[string]string{}}
	defer func() {
		if p := recover(); p != nil {
			b, path, e = nil, "", api.ErrInvalid
			if s, ok := p.(stop); ok {
				path, e = s.path, s.e
			}
		}
	}()
	c := &checker{newScope(nil, nil), b}
	c.list(l)
	for _, f := range b.forwards {
		if !f.complete {
			c.at = f.path
			c.wrong(api.ErrName)
		}
	}
	return b, "", api.OK
}

// check returns the definitions of declarations. A version counts for what stands ahead of it, too: so they are asked for first.
func check(l []api.Decl) (defs []api.Def, path string, e api.Errno) {
	b, path, e := run(l, nil)
	if e == api.OK && len(b.versions) > 0 {
		b, path, e = run(l, b.versions)
	}
	if e != api.OK {
		return nil, path, e
	}
	return b.defs, "", api.OK
}

// checks are what is asked of declarations by their kinds.
func checks() map[int]func(*checker, *api.Decl) {
	return map[int]func(*checker, *api.Decl){
		api.DModule: (*checker).module, api.DInterface: (*checker).face, api.DForward: (*checker).forward, api.DStruct: (*checker).structure, api.DUnion: (*checker).union, api.DEnum: (*checker).enum,
		api.DAlias: (*checker).alias, api.DConst: (*checker).constant, api.DExcept: (*checker).structure, api.DValue: (*checker).value, api.DVersion: (*checker).version,
	}
}

func (c *checker) list(l []api.Decl) {
	for i := range l {
		checks()[l[i].Kind](c, &l[i])
	}
}

// id is that of a path, with its version.
func (c *checker) id(path string) string {
	version := c.given[path]
	if version == "" {
		version = "1.0"
	}
	return withVersion(path, version)
}

func withVersion(path, version string) string {
	return strings.ReplaceAll(path, "::", "/") + ":" + version
}

// fresh asks whether a name is not in the scope yet.
func (c *checker) fresh(name string) {
	if c.names[name] != nil || c.own(name) {
		c.wrong(api.ErrDuplicate)
	}
}

// named asks a name for a definition, and returns its id.
func (c *checker) named(name string) string {
	c.fresh(name)
	id := c.id(c.path(name))
	if len(id) > api.MaxName {
		c.wrong(api.ErrLimit)
	}
	return id
}

// begin puts a definition into the scope; it returns its entry and the index of its definition.
func (c *checker) begin(kind int, name, id string) (*entry, int) {
	e := &entry{kind: kind, path: c.path(name)}
	e.inner = newScope(e, c.scope)
	c.names[name] = e
	c.defs = append(c.defs, api.Def{Kind: kind, ID: id, Path: e.path})
	return e, len(c.defs) - 1
}

// end completes a definition with its type.
func (c *checker) end(e *entry, i int, t api.Type) {
	if !kind.Valid(t) {
		c.wrong(api.ErrLimit)
	}
	e.t, e.complete = t, true
	c.defs[i].Type = copies.Type(t)
}

// in is a checker of what stands within something.
func (c *checker) in(e *entry) *checker {
	return &checker{e.inner, c.book}
}

func (c *checker) module(d *api.Decl) {
	c.at = c.path(d.Name)
	e := c.names[d.Name]
	if c.own(d.Name) || e != nil && e.kind != api.DModule {
		c.wrong(api.ErrDuplicate)
	}
	if e == nil {
		e = &entry{kind: api.DModule, path: c.path(d.Name)}
		e.inner = newScope(e, c.scope)
		c.names[d.Name] = e
	}
	c.in(e).list(d.Kids)
}

// faceEntry is the entry of an interface, that may be there already.
func (c *checker) faceEntry(d *api.Decl) *entry {
	c.at = c.path(d.Name)
	e := c.names[d.Name]
	if e != nil && e.kind == api.DInterface && (d.Kind == api.DForward || !e.complete) {
		return e
	}
	id := c.named(d.Name)
	e = &entry{kind: api.DInterface, path: c.at, ops: map[string]bool{}, t: api.Type{Kind: api.TObject, ID: id, Name: d.Name}}
	e.inner = newScope(e, c.scope)
	c.names[d.Name] = e
	return e
}

func (c *checker) forward(d *api.Decl) {
	c.forwards = append(c.forwards, c.faceEntry(d))
}

func (c *checker) face(d *api.Decl) {
	e := c.faceEntry(d)
	i := len(c.defs)
	c.defs = append(c.defs, api.Def{Kind: api.DInterface, ID: e.t.ID, Path: e.path, Type: e.t})
	for _, path := range d.Names {
		b := c.resolve(path).bare()
		switch {
		case b == nil:
			c.wrong(api.ErrName)
		case slices.Contains(e.direct, b):
			c.wrong(api.ErrDuplicate)
		case b.kind != api.DInterface || !b.complete:
			c.wrong(api.ErrKind)
		case len(e.direct) == api.MaxKids:
			c.wrong(api.ErrLimit)
		}
		e.direct = append(e.direct, b)
		c.defs[i].Bases = append(c.defs[i].Bases, b.t.ID)
	}
	c.clash(e)
	in := c.in(e)
	for j := range d.Kids {
		switch d.Kids[j].Kind {
		case api.DOp:
			c.at = e.path
			op := in.operation(e, &d.Kids[j])
			c.defs[i].Ops = append(c.defs[i].Ops, op)
		case api.DAttr:
			c.at = e.path
			ops := in.attribute(e, &d.Kids[j])
			c.defs[i].Ops = append(c.defs[i].Ops, ops...)
		default:
			checks()[d.Kids[j].Kind](in, &d.Kids[j])
		}
	}
	e.complete = true
}

// clash asks whether two bases have operations or attributes of one name.
func (c *checker) clash(e *entry) {
	seen := map[string]bool{}
	for b := range e.bases() {
		for op := range b.ops {
			if seen[op] {
				c.wrong(api.ErrDuplicate)
			}
		}
		for op := range b.ops {
			seen[op] = true
		}
	}
}

// opName puts the name of an operation or attribute into an interface.
func (c *checker) opName(e *entry, d *api.Decl) {
	c.fresh(d.Name)
	for b := range e.bases() {
		if b.ops[d.Name] {
			c.wrong(api.ErrDuplicate)
		}
	}
	if d.Kind == api.DAttr && !kind.Name("get_"+d.Name) {
		c.wrong(api.ErrLimit)
	}
	e.ops[d.Name] = true
	c.names[d.Name] = &entry{kind: d.Kind, path: c.path(d.Name)}
}

func (c *checker) attribute(e *entry, d *api.Decl) []api.Op {
	t := c.typ(d.Type)
	c.opName(e, d)
	ops := []api.Op{{Name: "_get_" + d.Name, Result: t}}
	if !d.Flag {
		ops = append(ops, api.Op{Name: "_set_" + d.Name, Params: []api.Param{{Name: "value", Way: api.DIn, Type: copies.Type(t)}}})
	}
	return ops
}

func (c *checker) operation(e *entry, d *api.Decl) api.Op {
	op := api.Op{Name: d.Name, Oneway: d.Flag}
	answers := 0
	if d.Type != "void" {
		op.Result, _ = c.typeOf(d.Type, func(int) bool { return !op.Oneway })
		answers++
	}
	c.opName(e, d)
	seen := map[string]bool{}
	for _, p := range d.Kids {
		if op.Oneway && p.N != api.DIn {
			c.wrong(api.ErrKind)
		}
		t := c.typ(p.Type)
		if seen[p.Name] {
			c.wrong(api.ErrDuplicate)
		}
		seen[p.Name] = true
		if p.N != api.DIn {
			answers++
		}
		if len(op.Params) == api.MaxKids || answers > api.MaxKids {
			c.wrong(api.ErrLimit)
		}
		op.Params = append(op.Params, api.Param{Name: p.Name, Way: p.N, Type: t})
	}
	// The word raises stands before the names of exceptions.
	if op.Oneway && len(d.Names) > 0 {
		c.wrong(api.ErrKind)
	}
	op.Raises = c.raises(d)
	return op
}

func (c *checker) raises(d *api.Decl) []api.Type {
	var l []api.Type
	var seen []*entry
	for _, path := range d.Names {
		x := c.resolve(path)
		switch {
		case x == nil:
			c.wrong(api.ErrName)
		case slices.Contains(seen, x):
			c.wrong(api.ErrDuplicate)
		case x.kind != api.DExcept:
			c.wrong(api.ErrKind)
		case len(l) == api.MaxKids:
			c.wrong(api.ErrLimit)
		}
		seen = append(seen, x)
		l = append(l, copies.Type(x.t))
	}
	return l
}

// member puts a member into a type: its type stands before its name.
func (c *checker) member(t *api.Type, d *api.Decl) {
	t.Kids = append(t.Kids, c.typ(d.Type))
	if tooLarge(t) {
		c.wrong(api.ErrLimit)
	}
	c.fresh(d.Name)
	if slices.Contains(t.Names, d.Name) {
		c.wrong(api.ErrDuplicate)
	}
	if len(t.Names) == api.MaxKids {
		c.wrong(api.ErrLimit)
	}
	t.Names = append(t.Names, d.Name)
	c.names[d.Name] = &entry{kind: api.DMember, path: c.path(d.Name)}
}

func (c *checker) structure(d *api.Decl) {
	c.at = c.path(d.Name)
	t := api.Type{Kind: api.TStruct, ID: c.named(d.Name), Name: d.Name}
	if d.Kind == api.DExcept {
		t.Kind = api.TExcept
	}
	e, i := c.begin(d.Kind, d.Name, t.ID)
	in := c.in(e)
	for j := range d.Kids {
		in.member(&t, &d.Kids[j])
	}
	c.end(e, i, t)
}

func (c *checker) union(d *api.Decl) {
	c.at = c.path(d.Name)
	t := api.Type{Kind: api.TUnion, ID: c.named(d.Name), Name: d.Name, N: -1}
	e, i := c.begin(d.Kind, d.Name, t.ID)
	tag, _ := c.typeOf(d.Type, func(kind int) bool { return kind >= api.TBool && kind <= api.TLong || kind == api.TEnum })
	tag = bareType(tag)
	t.Kids = []api.Type{tag}
	in := c.in(e)
	seen := map[int]bool{}
	for j := range d.Kids {
		t.Labels = append(t.Labels, nil)
		for _, label := range d.Kids[j].Names {
			if label == "default" && t.N >= 0 {
				c.wrong(api.ErrDuplicate)
			}
			if label == "default" {
				t.N = j
				continue
			}
			n := in.label(tag, label)
			if seen[n] {
				c.wrong(api.ErrDuplicate)
			}
			if len(seen) == maxLabels {
				c.wrong(api.ErrLimit)
			}
			seen[n] = true
			t.Labels[j] = append(t.Labels[j], n)
		}
		in.member(&t, &d.Kids[j])
	}
	// What is left to be wrong is a default for which the labels leave nothing.
	c.end(e, i, t)
}

func (c *checker) label(tag api.Type, expr string) int {
	if tag.Kind == api.TEnum {
		return c.enumerator(tag, expr)
	}
	return c.fitting(tag, expr)
}

// fitting returns the value of an expression of numbers that is one of a type.
func (c *checker) fitting(t api.Type, expr string) int {
	n := c.number(expr)
	if !kind.Fits(t, n) {
		c.wrong(api.ErrRange)
	}
	return n
}

func (c *checker) enum(d *api.Decl) {
	c.at = c.path(d.Name)
	t := api.Type{Kind: api.TEnum, ID: c.named(d.Name), Name: d.Name}
	e, i := c.begin(d.Kind, d.Name, t.ID)
	e.inner = nil
	for n, name := range d.Names {
		c.fresh(name)
		if n == api.MaxKids {
			c.wrong(api.ErrLimit)
		}
		t.Names = append(t.Names, name)
		c.names[name] = &entry{kind: anEnumerator, path: c.path(name), of: e, value: api.Data{Kind: api.TEnum, N: n}}
	}
	c.end(e, i, t)
}

func (c *checker) alias(d *api.Decl) {
	c.at = c.path(d.Name)
	of, names := c.typeOf(d.Type, nil)
	t := api.Type{Kind: api.TAlias, ID: c.named(d.Name), Name: d.Name, Kids: []api.Type{of}}
	e, i := c.begin(d.Kind, d.Name, t.ID)
	e.inner, e.of = nil, names
	c.end(e, i, t)
}

func (c *checker) constant(d *api.Decl) {
	c.at = c.path(d.Name)
	t, _ := c.typeOf(d.Type, func(kind int) bool { return kind >= api.TBool && kind <= api.TEnum })
	b := bareType(t)
	value := api.Data{Kind: b.Kind}
	id := c.named(d.Name)
	switch b.Kind {
	case api.TText:
		value.S = c.text(d.Expr)
		if most := b.N; len(value.S) > most && most > 0 {
			c.wrong(api.ErrRange)
		}
	case api.TFixed:
		value.S = c.decimal(b, d.Expr)
	case api.TEnum:
		value.N = c.enumerator(b, d.Expr)
	default:
		value.N = c.fitting(b, d.Expr)
	}
	e, i := c.begin(d.Kind, d.Name, id)
	e.inner, e.t, e.value, e.complete = nil, t, value, true
	c.defs[i].Type, c.defs[i].Value = copies.Type(t), value
}

func (c *checker) value(d *api.Decl) {
	c.at = c.path(d.Name)
	t := api.Type{Kind: api.TValue, ID: c.named(d.Name), Name: d.Name}
	e, i := c.begin(d.Kind, d.Name, t.ID)
	for _, path := range d.Names {
		c.base(&t, path)
		c.defs[i].Bases = []string{t.Chain[len(t.Chain)-1].ID}
	}
	in := c.in(e)
	for j := range d.Kids {
		in.member(&t, &d.Kids[j])
	}
	t.Chain = append(t.Chain, api.Part{ID: t.ID, N: len(t.Kids), Trunc: d.Flag})
	c.end(e, i, t)
}

// base takes the chain and the members of a valuetype's base: with the base unfolded, as references to it lead nowhere here.
func (c *checker) base(t *api.Type, path string) {
	b := c.resolve(path).bare()
	switch {
	case b == nil:
		c.wrong(api.ErrName)
	case b.kind != api.DValue || !b.complete:
		c.wrong(api.ErrKind)
	case len(b.t.Chain) == maxChain:
		c.wrong(api.ErrLimit)
	}
	t.Chain = slices.Clone(b.t.Chain)
	for _, name := range b.t.Names {
		_, kid, e := kind.Member(b.t, name)
		if e != api.OK {
			c.wrong(api.ErrLimit)
		}
		t.Names = append(t.Names, name)
		t.Kids = append(t.Kids, kid)
	}
	if tooLarge(t) {
		c.wrong(api.ErrLimit)
	}
}

func (c *checker) version(d *api.Decl) {
	c.at = d.Name
	e := c.resolve(d.Name)
	if e == nil {
		c.wrong(api.ErrName)
	}
	if c.versions[e.path] != "" {
		c.wrong(api.ErrDuplicate)
	}
	switch e.kind {
	case api.DInterface, api.DStruct, api.DUnion, api.DEnum, api.DAlias, api.DConst, api.DExcept, api.DValue:
	default:
		c.wrong(api.ErrKind)
	}
	upper, lower, _ := strings.Cut(d.Expr, ".")
	if number(upper) > maxVersion || number(lower) > maxVersion {
		c.wrong(api.ErrRange)
	}
	if len(withVersion(e.path, d.Expr)) > api.MaxName {
		c.wrong(api.ErrLimit)
	}
	c.versions[e.path] = d.Expr
}

func number(s string) int {
	n, err := strconv.Atoi(s)
	if err != nil {
		return math.MaxInt
	}
	return n
}

// Check returns the definitions of declarations, or the path of the first one that is wrong.
func Check(l []api.Decl) (defs []api.Def, path string, e api.Errno) {
	if !idl.Valid(l) {
		return nil, "", api.ErrInvalid
	}
	return check(l)
}

// Read returns the definitions of a text.
func Read(text string) (defs []api.Def, line int, path string, e api.Errno) {
	l, line, e := idl.Parse(text)
	if e != api.OK {
		return nil, line, "", e
	}
	defs, path, e = check(l)
	return defs, -1, path, e
}
