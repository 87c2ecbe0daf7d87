package repo

import (
	"slices"
	"strconv"
	"strings"

	"intermede/api"
	"intermede/idl"
	"intermede/kind"
)

// builder makes declarations of definitions: absolute paths stand for all names.
type builder struct {
	defs  []api.Def
	paths map[string]string // by ids
	count int               // of declarations that there are at least
	bad   bool
}

// rebuilt returns declarations of which definitions may be; each list is a declaration of the file.
// Interfaces are declared ahead, as any definition may name any of them.
func rebuilt(defs []api.Def) ([][]api.Decl, bool) {
	b := &builder{defs: defs, paths: map[string]string{objectID: ""}}
	for i := range defs {
		if _, there := b.paths[defs[i].ID]; there {
			return nil, false
		}
		b.paths[defs[i].ID] = defs[i].Path
	}
	var l [][]api.Decl
	for i := range defs {
		if defs[i].Kind == api.DInterface {
			l = append(l, b.inModules(defs[i].Path, api.Decl{Kind: api.DForward, Name: last(defs[i].Path)}))
		}
	}
	for i := 0; i < len(defs) && !b.bad; {
		d, n := b.decl(i)
		b.count += idl.Count([]api.Decl{d})
		l = append(l, b.inModules(defs[i].Path, d))
		i += n
	}
	for i := range defs {
		if version := defs[i].ID[strings.LastIndexByte(defs[i].ID, ':')+1:]; version != "1.0" {
			l = append(l, []api.Decl{{Kind: api.DVersion, Name: "::" + defs[i].Path, Expr: version}})
			b.count++
		}
	}
	return l, !b.bad && b.count <= api.MaxDefs
}

// inModules puts a declaration into the modules of its path.
func (b *builder) inModules(path string, d api.Decl) []api.Decl {
	names := strings.Split(path, "::")
	b.bad = b.bad || len(names) > api.MaxDeep
	if b.bad {
		return nil
	}
	for i := len(names) - 2; i >= 0; i-- {
		d = api.Decl{Kind: api.DModule, Name: names[i], Kids: []api.Decl{d}}
	}
	return []api.Decl{d}
}

// parent returns the path of the scope in which something stands.
func parent(path string) string {
	i := strings.LastIndex(path, "::")
	return path[:max(i, 0)]
}

// decl makes the declaration of a definition, for an interface with those that stand in it; it tells how many these are.
func (b *builder) decl(i int) (api.Decl, int) {
	def := &b.defs[i]
	d := api.Decl{Kind: def.Kind, Name: last(def.Path)}
	n := 1
	b.bad = b.bad || !kind.Valid(def.Type)
	if b.bad {
		return d, n
	}
	switch def.Kind {
	case api.DInterface:
		d.Names = b.all(def.Bases)
		for i+n < len(b.defs) && parent(b.defs[i+n].Path) == def.Path {
			kid, _ := b.decl(i + n)
			d.Kids = append(d.Kids, kid)
			n++
		}
		b.ops(&d, def.Ops)
	case api.DStruct, api.DExcept:
		b.structure(&d, &def.Type)
	case api.DUnion:
		b.union(&d, &def.Type)
	case api.DEnum:
		d.Names = slices.Clone(def.Type.Names)
	case api.DAlias:
		b.alias(&d, &def.Type)
	case api.DConst:
		d.Type = b.typ(&def.Type)
		d.Expr = b.expr(&def.Type, &def.Value)
	case api.DValue:
		b.value(&d, def)
	default:
		b.bad = true
	}
	return d, n
}

// path is that of an id.
func (b *builder) path(id string) string {
	path := b.paths[id]
	b.bad = b.bad || path == ""
	return "::" + path
}

func (b *builder) all(ids []string) []string {
	var l []string
	for _, id := range ids {
		l = append(l, b.path(id))
	}
	return l
}

// typ writes a type.
func (b *builder) typ(t *api.Type) string {
	n := strconv.Itoa(t.N)
	switch t.Kind {
	case api.TText:
		if t.N == 0 {
			return "string"
		}
		return "string<" + n + ">"
	case api.TFixed:
		return "fixed<" + n + "," + strconv.Itoa(t.M) + ">"
	case api.TSeq:
		if t.N == 0 {
			return "sequence<" + b.typ(&t.Kids[0]) + ">"
		}
		return "sequence<" + b.typ(&t.Kids[0]) + "," + n + ">"
	case api.TArray:
		return "array<" + b.typ(&t.Kids[0]) + "," + n + ">"
	case api.TObject:
		if t.ID == objectID {
			return "Object"
		}
	}
	if t.Kind < len(basics) && basics[t.Kind] != "" {
		return basics[t.Kind]
	}
	return b.path(t.ID)
}

func (b *builder) members(names []string, kids []api.Type) []api.Decl {
	var l []api.Decl
	for i, name := range names {
		l = append(l, api.Decl{Kind: api.DMember, Name: name, Type: b.typ(&kids[i])})
	}
	return l
}

func (b *builder) structure(d *api.Decl, t *api.Type) {
	if b.bad = b.bad || t.Kind != api.TStruct && t.Kind != api.TExcept; !b.bad {
		d.Kids = b.members(t.Names, t.Kids)
	}
}

func (b *builder) union(d *api.Decl, t *api.Type) {
	if b.bad = b.bad || t.Kind != api.TUnion; b.bad {
		return
	}
	tag := &t.Kids[0]
	d.Type = b.typ(tag)
	d.Kids = b.members(t.Names, t.Kids[1:])
	for i := range d.Kids {
		for _, label := range t.Labels[i] {
			d.Kids[i].Names = append(d.Kids[i].Names, b.number(tag, label))
		}
		if i == t.N {
			d.Kids[i].Names = append(d.Kids[i].Names, "default")
		}
	}
}

// number writes a number, as an enumerator where the type is an enumeration.
func (b *builder) number(t *api.Type, n int) string {
	if t.Kind != api.TEnum {
		// The least number of all can't be written by itself.
		if n == -1<<63 {
			return "-9223372036854775807 - 1"
		}
		return strconv.Itoa(n)
	}
	if b.bad = b.bad || n < 0 || n >= len(t.Names); b.bad {
		return ""
	}
	if around := parent(b.path(t.ID)); around != "" {
		return around + "::" + t.Names[n]
	}
	return "::" + t.Names[n]
}

func (b *builder) alias(d *api.Decl, t *api.Type) {
	if b.bad = b.bad || t.Kind != api.TAlias; !b.bad {
		d.Type = b.typ(&t.Kids[0])
	}
}

// expr writes the value of a constant.
func (b *builder) expr(t *api.Type, value *api.Data) string {
	bare := bareType(*t)
	if bare.Kind == api.TText || bare.Kind == api.TFixed {
		return `"` + value.S + `"`
	}
	return b.number(&bare, value.N)
}

func (b *builder) value(d *api.Decl, def *api.Def) {
	t := &def.Type
	if b.bad = b.bad || t.Kind != api.TValue; b.bad {
		return
	}
	from := 0
	if n := len(t.Chain); n > 1 {
		from = t.Chain[n-2].N
		d.Names = []string{b.path(t.Chain[n-2].ID)}
		d.Flag = t.Chain[n-1].Trunc
	}
	d.Kids = b.members(t.Names[from:], t.Kids[from:])
}

// ops makes the declarations of operations: those of an attribute follow each other.
func (b *builder) ops(d *api.Decl, l []api.Op) {
	for i := 0; i < len(l); i++ {
		op := &l[i]
		for _, t := range append([]api.Type{op.Result}, op.Raises...) {
			b.bad = b.bad || !kind.Valid(t)
		}
		for _, p := range op.Params {
			b.bad = b.bad || !kind.Valid(p.Type)
		}
		if b.bad {
			return
		}
		name, is := strings.CutPrefix(op.Name, "_get_")
		if !is {
			d.Kids = append(d.Kids, b.op(op))
			continue
		}
		a := api.Decl{Kind: api.DAttr, Name: name, Type: b.typ(&op.Result), Flag: true}
		if i+1 < len(l) && l[i+1].Name == "_set_"+name {
			a.Flag = false
			i++
		}
		d.Kids = append(d.Kids, a)
	}
}

func (b *builder) op(op *api.Op) api.Decl {
	d := api.Decl{Kind: api.DOp, Name: op.Name, Flag: op.Oneway, Type: b.typ(&op.Result)}
	for i := range op.Params {
		p := &op.Params[i]
		d.Kids = append(d.Kids, api.Decl{Kind: api.DParam, Name: p.Name, N: p.Way, Type: b.typ(&p.Type)})
	}
	for i := range op.Raises {
		d.Names = append(d.Names, b.path(op.Raises[i].ID))
	}
	return d
}

// declarations returns those that give definitions, if there are some.
func declarations(defs []api.Def) ([][]api.Decl, bool) {
	lists, ok := rebuilt(defs)
	if !ok {
		return nil, false
	}
	var all []api.Decl
	for _, l := range lists {
		if !idl.Valid(l) {
			return nil, false
		}
		all = append(all, l...)
	}
	again, _, e := check(all)
	return lists, e == api.OK && slices.EqualFunc(defs, again, equal)
}

// equal reports whether definitions with valid types are equal.
func equal(a, b api.Def) bool {
	return a.Kind == b.Kind && a.ID == b.ID && a.Path == b.Path && slices.Equal(a.Bases, b.Bases) && kind.Equal(a.Type, b.Type) &&
		sameValue(a.Value, b.Value) && slices.EqualFunc(a.Ops, b.Ops, equalOp)
}

func sameValue(a, b api.Data) bool {
	return a.Kind == b.Kind && a.N == b.N && a.S == b.S && len(a.Kids)+len(a.Types)+len(b.Kids)+len(b.Types) == 0
}

func equalOp(a, b api.Op) bool {
	return a.Name == b.Name && a.Oneway == b.Oneway && kind.Equal(a.Result, b.Result) && slices.EqualFunc(a.Raises, b.Raises, kind.Equal) &&
		slices.EqualFunc(a.Params, b.Params, func(p, q api.Param) bool {
			return p.Name == q.Name && p.Way == q.Way && kind.Equal(p.Type, q.Type)
		})
}

// Valid reports whether definitions are as Check returns them.
func Valid(defs []api.Def) bool {
	_, ok := declarations(defs)
	return ok
}

// Format writes definitions: the declarations of which they may be, behind their number.
func Format(defs []api.Def) string {
	lists, ok := declarations(defs)
	if !ok {
		return ""
	}
	var b strings.Builder
	b.WriteString("// " + strconv.Itoa(len(defs)) + " definitions\n")
	for _, l := range lists {
		b.WriteString(idl.Format(l))
	}
	return b.String()
}
