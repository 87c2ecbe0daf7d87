package kind

import (
	"slices"

	"intermede/api"
)

// Equal reports whether two types are equal in all fields.
func Equal(a, b api.Type) bool {
	return Valid(a) && Valid(b) && equal(a, b)
}

func equal(a, b api.Type) bool {
	return a.Kind == b.Kind && a.ID == b.ID && a.Name == b.Name && a.N == b.N && a.M == b.M &&
		slices.Equal(a.Names, b.Names) && slices.EqualFunc(a.Labels, b.Labels, slices.Equal[[]int]) &&
		slices.Equal(a.Chain, b.Chain) && slices.EqualFunc(a.Kids, b.Kids, equal)
}

// Equivalent reports whether two types are equal but for aliases and names.
func Equivalent(a, b api.Type) bool {
	return Valid(a) && Valid(b) && alike(a, b)
}

func isNode(t *api.Type) bool { return t.Kind == api.TValue || t.Kind == api.TRef }

func alike(x, y api.Type) bool {
	a, b := bare(&x), bare(&y)
	if isNode(a) && isNode(b) {
		return a.ID == b.ID
	}
	return a.Kind == b.Kind && a.ID == b.ID && a.N == b.N && a.M == b.M && len(a.Names) == len(b.Names) &&
		slices.EqualFunc(a.Labels, b.Labels, slices.Equal[[]int]) && slices.EqualFunc(a.Kids, b.Kids, alike)
}

// bounded reports whether a bound is no greater than another one, where 0 is the greatest.
func bounded(n, most int) bool {
	return most == 0 || n != 0 && n <= most
}

// Compatible reports whether data of a type may be given where another one is asked.
func Compatible(from, to api.Type) bool {
	if !Valid(from) || !Valid(to) {
		return false
	}
	if alike(from, to) {
		return true
	}
	a, b := bare(&from), bare(&to)
	if a.Kind != b.Kind {
		return false
	}
	switch a.Kind {
	case api.TValue:
		return slices.ContainsFunc(a.Chain, func(p api.Part) bool { return p.ID == b.ID })
	case api.TText:
		return bounded(a.N, b.N)
	case api.TSeq:
		return bounded(a.N, b.N) && alike(a.Kids[0], b.Kids[0])
	case api.TFixed:
		return a.N-a.M <= b.N-b.M && a.M <= b.M
	}
	return false
}

// union returns a valid union without aliases at its top.
func union(t *api.Type) (*api.Type, api.Errno) {
	if !Valid(*t) {
		return nil, api.ErrInvalid
	}
	if b := bare(t); b.Kind == api.TUnion {
		return b, api.OK
	}
	return nil, api.ErrKind
}

// labelled returns the member that has a label, or -1.
func labelled(t *api.Type, tag int) int {
	return slices.IndexFunc(t.Labels, func(l []int) bool { return slices.Contains(l, tag) })
}

// Chosen returns the member of a union that a tag has.
func Chosen(t api.Type, tag int) (int, api.Errno) {
	u, e := union(&t)
	if e != api.OK {
		return 0, e
	}
	if !fits(&u.Kids[0], tag) {
		return 0, api.ErrRange
	}
	if i := labelled(u, tag); i >= 0 {
		return i, api.OK
	}
	if u.N < 0 {
		return 0, api.ErrNone
	}
	return u.N, api.OK
}

// Free returns the least tag of a union that no label has.
func Free(t api.Type) (int, api.Errno) {
	u, e := union(&t)
	if e != api.OK {
		return 0, e
	}
	for tag := 0; fits(&u.Kids[0], tag); tag++ {
		if labelled(u, tag) < 0 {
			return tag, api.OK
		}
	}
	return 0, api.ErrNone
}
