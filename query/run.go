package query

import (
	"iter"
	"slices"
	"strconv"
	"strings"

	"intermede/api"
)

// maxCombinations is how many combinations of rows are asked at most.
const maxCombinations = 100000

// show writes a query.
func (q *query) show() string {
	b := &strings.Builder{}
	before := func(i int, first string) {
		if i > 0 {
			first = ", "
		}
		b.WriteString(first)
	}
	b.WriteString("select ")
	for i, x := range q.items {
		before(i, "")
		x.show(b)
		b.WriteString(" as " + x.name)
	}
	if len(q.items) == 0 {
		b.WriteByte('*')
	}
	for i, f := range q.froms {
		before(i, " from ")
		b.WriteString(f.name + " as " + f.alias)
	}
	if q.where != nil {
		b.WriteString(" where ")
		q.where.show(b)
	}
	for i, k := range q.keys {
		before(i, " order by ")
		k.show(b)
		if k.down {
			b.WriteString(" down")
		} else {
			b.WriteString(" up")
		}
	}
	if q.bounded {
		b.WriteString(" first " + strconv.Itoa(q.first))
	}
	return b.String()
}

// expressions returns all expressions of a query.
func (q *query) expressions() []*node {
	l := []*node{q.where}
	for _, x := range q.items {
		l = append(l, x.node)
	}
	for _, k := range q.keys {
		l = append(l, k.node)
	}
	return l
}

func (q *query) aliases() []string {
	var l []string
	for _, f := range q.froms {
		l = append(l, f.alias)
	}
	return l
}

func (q *query) itemNames() []string {
	var l []string
	for _, x := range q.items {
		l = append(l, x.name)
	}
	return l
}

// isWhole reports whether a query tells of all combinations together.
func (q *query) isWhole() bool {
	return slices.ContainsFunc(q.items, func(x item) bool { return x.any(func(n *node) bool { return n.whole }) })
}

// against tells what stands against a query of collections with names.
func (q *query) against(names []string, sets int) api.Errno {
	aliases := q.aliases()
	strange := func(n *node) bool { return n.alias != "" && !slices.Contains(aliases, n.alias) }
	switch {
	case slices.ContainsFunc(q.froms, func(f from) bool { return !slices.Contains(names, f.name) }):
		return api.ErrName
	case slices.ContainsFunc(q.expressions(), func(n *node) bool { return n.any(strange) }):
		return api.ErrName
	case len(names) != sets:
		return api.ErrSize
	case !differ(names) || !differ(aliases) || !differ(q.itemNames()):
		return api.ErrDuplicate
	}
	return api.OK
}

// combinations goes through the combinations of the rows of collections: for each of those before it all rows of the last one.
func combinations(sets []*Set) iter.Seq[combination] {
	return func(yield func(combination) bool) {
		if len(sets) == 0 {
			yield(nil)
			return
		}
		last := len(sets) - 1
		for begun := range combinations(sets[:last]) {
			for _, r := range sets[last].rows {
				if !yield(append(slices.Clip(begun), r)) {
					return
				}
			}
		}
	}
}

// passing returns the combinations that pass, or ErrLimit where there are too many in all.
func (q *query) passing(sets []*Set) ([]combination, api.Errno) {
	all := 1
	for _, s := range sets {
		all *= len(s.rows)
	}
	if all > maxCombinations {
		return nil, api.ErrLimit
	}
	var l []combination
	s := &scope{aliases: q.aliases()}
	for rows := range combinations(sets) {
		s.rows = rows
		if q.where == nil || q.where.eval(s) == truth(true) {
			l = append(l, rows)
		}
	}
	return l, api.OK
}

// ordered puts combinations in the order of a query.
func (q *query) ordered(l []combination) []combination {
	type keyedRows struct {
		values []value
		rows   combination
	}
	var all []keyedRows
	s := &scope{aliases: q.aliases()}
	for _, rows := range l {
		s.rows = rows
		x := keyedRows{rows: rows}
		for _, k := range q.keys {
			x.values = append(x.values, k.eval(s))
		}
		all = append(all, x)
	}
	slices.SortStableFunc(all, func(a, b keyedRows) int {
		for i, k := range q.keys {
			c := compared(a.values[i], b.values[i])
			if k.down {
				c = -c
			}
			if c != 0 {
				return c
			}
		}
		return 0
	})
	l = nil
	for _, x := range all {
		l = append(l, x.rows)
	}
	return l
}

// told returns the row that is told of a scope.
func (q *query) told(s *scope) ([]api.Prop, api.Errno) {
	var l []api.Prop
	put := func(name string, v value) {
		if v.kind != isNull {
			l = append(l, v.prop(name))
		}
	}
	for _, x := range q.items {
		put(x.name, x.eval(s))
	}
	if len(q.items) == 0 {
		for i, r := range s.rows {
			for _, p := range r {
				name := p.Name
				if len(s.rows) > 1 {
					name = s.aliases[i] + "_" + name
				}
				put(name, valueOf(p))
			}
		}
	}
	slices.SortFunc(l, comparedFields)
	for i, p := range l {
		switch {
		case len(p.Name) > api.MaxName:
			return nil, api.ErrLimit
		case i > 0 && l[i-1].Name == p.Name:
			return nil, api.ErrDuplicate
		}
	}
	return l, api.OK
}

// scopes returns what rows are told of.
func (q *query) scopes(l []combination) []*scope {
	aliases := q.aliases()
	if q.isWhole() {
		return []*scope{{aliases: aliases, all: l, whole: true}}
	}
	var scopes []*scope
	for _, rows := range q.ordered(l) {
		scopes = append(scopes, &scope{aliases: aliases, rows: rows})
	}
	return scopes
}

// Run runs a query over collections with names.
func Run(text string, names []string, sets []*Set) ([][]api.Prop, api.Errno) {
	if !areNames(names) || slices.Contains(sets, nil) {
		return nil, api.ErrInvalid
	}
	q, _, e := read(text, false, (*parser).query)
	if e != api.OK {
		return nil, e
	}
	if e := q.against(names, len(sets)); e != api.OK {
		return nil, e
	}
	var asked []*Set
	for _, f := range q.froms {
		asked = append(asked, sets[slices.Index(names, f.name)])
	}
	passing, e := q.passing(asked)
	if e != api.OK {
		return nil, e
	}
	scopes := q.scopes(passing)
	if q.bounded {
		scopes = scopes[:min(q.first, len(scopes))]
	}
	if len(scopes) > maxRows {
		return nil, api.ErrLimit
	}
	var l [][]api.Prop
	for _, s := range scopes {
		r, e := q.told(s)
		if e != api.OK {
			return nil, e
		}
		l = append(l, r)
	}
	return l, api.OK
}

// Value returns the value of an expression for a row; false if it is null.
func Value(expr string, r []api.Prop) (api.Prop, bool, api.Errno) {
	if !ValidRow(r) {
		return api.Prop{}, false, api.ErrInvalid
	}
	n, _, e := read(expr, true, (*parser).expr)
	if e != api.OK {
		return api.Prop{}, false, e
	}
	v := n.eval(&scope{rows: combination{r}})
	return v.prop(""), v.kind != isNull, api.OK
}
