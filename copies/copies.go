// Package copies copies what has slices within, so that nobody shares memory with what was told.
package copies

import (
	"slices"

	"intermede/api"
)

// each copies a list, with a copy of each thing in it.
func each[T any](l []T, one func(T) T) []T {
	l = slices.Clone(l)
	for i := range l {
		l[i] = one(l[i])
	}
	return l
}

// Type copies a type.
func Type(t api.Type) api.Type {
	t.Names = slices.Clone(t.Names)
	t.Kids = each(t.Kids, Type)
	t.Labels = each(t.Labels, slices.Clone[[]int])
	t.Chain = slices.Clone(t.Chain)
	return t
}

// Types copies types.
func Types(l []api.Type) []api.Type { return each(l, Type) }

// Params copies parameters.
func Params(l []api.Param) []api.Param {
	return each(l, func(p api.Param) api.Param {
		p.Type = Type(p.Type)
		return p
	})
}

// Op copies an operation.
func Op(op api.Op) api.Op {
	op.Result = Type(op.Result)
	op.Params = Params(op.Params)
	op.Raises = Types(op.Raises)
	return op
}

// Ops copies operations.
func Ops(l []api.Op) []api.Op { return each(l, Op) }

// Data copies data.
func Data(d api.Data) api.Data {
	d.Kids = each(d.Kids, Data)
	d.Types = Types(d.Types)
	return d
}

// Def copies a definition.
func Def(d api.Def) api.Def {
	d.Type = Type(d.Type)
	d.Bases = slices.Clone(d.Bases)
	d.Ops = Ops(d.Ops)
	d.Value = Data(d.Value)
	return d
}

// Defs copies definitions.
func Defs(l []api.Def) []api.Def { return each(l, Def) }
