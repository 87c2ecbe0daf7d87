package query

import (
	"slices"
	"sort"

	"intermede/api"
)

// The sorts of collections.
const (
	aList = 1 + iota
	aBag
	keyed
)

// The limits of collections.
const (
	maxRows = 1000
	maxKey  = 5
)

// Set is a collection of rows.
type Set struct {
	sort      int
	key       []string
	rows      [][]api.Prop
	iterators []*Iterator
}

// New returns an empty collection.
func New(sort int, key []string) (*Set, api.Errno) {
	if sort < aList || sort > keyed || (sort == keyed) != (len(key) > 0) || len(key) > maxKey || !areNames(key) || !differ(key) {
		return nil, api.ErrInvalid
	}
	return &Set{sort: sort, key: slices.Clone(key)}, api.OK
}

// empty returns an empty collection of the same sort and key.
func (s *Set) empty() *Set { return &Set{sort: s.sort, key: slices.Clone(s.key)} }

// keyOf returns the values of a row's key; false if it lacks one.
func (s *Set) keyOf(r []api.Prop) ([]value, bool) {
	var l []value
	for _, name := range s.key {
		v := find(r, name)
		if v.kind == isNull {
			return nil, false
		}
		l = append(l, v)
	}
	return l, true
}

// compareTo tells how a row of the collection stands to another one.
func (s *Set) compareTo(r []api.Prop) func(i int) int {
	if s.sort == aBag {
		return func(i int) int { return slices.CompareFunc(s.rows[i], r, comparedFields) }
	}
	key, _ := s.keyOf(r)
	return func(i int) int {
		has, _ := s.keyOf(s.rows[i])
		return slices.CompareFunc(has, key, compared)
	}
}

// place returns the index at which a row would stand, behind its equals.
func (s *Set) place(r []api.Prop) int {
	if s.sort != aBag && s.sort != keyed {
		return len(s.rows)
	}
	order := s.compareTo(r)
	return sort.Search(len(s.rows), func(i int) bool { return order(i) > 0 })
}

// withKey returns the index of the row that has the key of another one; false if there is none.
func (s *Set) withKey(r []api.Prop) (int, bool) {
	i := s.place(r) - 1
	return i, i >= 0 && s.compareTo(r)(i) == 0
}

// admits tells why a row can't be put in the place of the one with an index (-1: of none).
func (s *Set) admits(r []api.Prop, i int) api.Errno {
	if s.sort != keyed {
		return api.OK
	}
	if _, has := s.keyOf(r); !has {
		return api.ErrKind
	}
	if j, there := s.withKey(r); there && j != i {
		return api.ErrDuplicate
	}
	return api.OK
}

// insert puts a copy of a row before an index.
func (s *Set) insert(i int, r []api.Prop) {
	s.rows = slices.Insert(s.rows, i, cloned(r))
	for _, t := range s.iterators {
		if t.place > i {
			t.place++
		}
	}
}

func (s *Set) remove(i int) {
	s.rows = slices.Delete(s.rows, i, i+1)
	for _, t := range s.iterators {
		if t.place > i {
			t.place--
		}
	}
}

// Put puts a row at its end, or at its place, and returns its index.
func (s *Set) Put(r []api.Prop) (int, api.Errno) {
	if s == nil || !ValidRow(r) {
		return 0, api.ErrInvalid
	}
	if e := s.admits(r, -1); e != api.OK {
		return 0, e
	}
	if len(s.rows) >= maxRows {
		return 0, api.ErrLimit
	}
	i := s.place(r)
	s.insert(i, r)
	return i, api.OK
}

// PutAt puts a row before an index of a list.
func (s *Set) PutAt(i int, r []api.Prop) api.Errno {
	switch {
	case s == nil || !ValidRow(r):
		return api.ErrInvalid
	case i < 0 || i > len(s.rows):
		return api.ErrRange
	case s.sort != aList:
		return api.ErrKind
	case len(s.rows) >= maxRows:
		return api.ErrLimit
	}
	s.insert(i, r)
	return api.OK
}

// has reports whether there is an index.
func (s *Set) has(i int) bool { return i >= 0 && i < len(s.rows) }

// Replace puts a row in the place of another one.
func (s *Set) Replace(i int, r []api.Prop) api.Errno {
	switch {
	case s == nil || !ValidRow(r):
		return api.ErrInvalid
	case !s.has(i):
		return api.ErrRange
	case s.sort == aList:
		s.rows[i] = cloned(r)
		return api.OK
	}
	if e := s.admits(r, i); e != api.OK {
		return e
	}
	s.remove(i)
	s.insert(s.place(r), r)
	return api.OK
}

// Take takes a row out.
func (s *Set) Take(i int) ([]api.Prop, api.Errno) {
	switch {
	case s == nil:
		return nil, api.ErrInvalid
	case !s.has(i):
		return nil, api.ErrRange
	}
	r := s.rows[i]
	s.remove(i)
	return r, api.OK
}

// Find returns the index of a key's row, whatever the order of the key's fields.
func (s *Set) Find(key []api.Prop) (int, api.Errno) {
	r := slices.Clone(key)
	slices.SortFunc(r, comparedFields)
	if s == nil || !ValidRow(r) {
		return 0, api.ErrInvalid
	}
	if _, has := s.keyOf(r); s.sort != keyed || !has || len(r) != len(s.key) {
		return 0, api.ErrKind
	}
	i, there := s.withKey(r)
	if !there {
		return 0, api.ErrNone
	}
	return i, api.OK
}

// index returns the index of the first row that is equal to another one, or -1.
func (s *Set) index(r []api.Prop) int {
	return slices.IndexFunc(s.rows, func(x []api.Prop) bool { return slices.CompareFunc(x, r, comparedFields) == 0 })
}

// Count returns how often a row is there.
func (s *Set) Count(r []api.Prop) int {
	if s == nil || !ValidRow(r) {
		return 0
	}
	n := 0
	for _, x := range s.rows {
		if slices.CompareFunc(x, r, comparedFields) == 0 {
			n++
		}
	}
	return n
}

// Len returns how many rows there are.
func (s *Set) Len() int {
	if s == nil {
		return 0
	}
	return len(s.rows)
}

// Rows returns all rows, in order.
func (s *Set) Rows() [][]api.Prop {
	if s == nil {
		return nil
	}
	var l [][]api.Prop
	for _, r := range s.rows {
		l = append(l, cloned(r))
	}
	return l
}

// Iterator goes over a collection: it stands before the row with the index place.
type Iterator struct {
	set   *Set
	place int
}

// Iterator returns an iterator before the first row.
func (s *Set) Iterator() (*Iterator, api.Errno) {
	if s == nil {
		return nil, api.ErrInvalid
	}
	t := &Iterator{set: s}
	s.iterators = append(s.iterators, t)
	return t, api.OK
}

// Next returns the row before which an iterator stands, and goes on.
func (t *Iterator) Next() ([]api.Prop, api.Errno) {
	switch {
	case t == nil || t.set == nil:
		return nil, api.ErrInvalid
	case t.Left() == 0:
		return nil, api.ErrNone
	}
	t.place++
	return cloned(t.set.rows[t.place-1]), api.OK
}

// Left returns how many rows come still.
func (t *Iterator) Left() int {
	if t == nil {
		return 0
	}
	return t.set.Len() - t.place
}

// Reset goes to the beginning.
func (t *Iterator) Reset() api.Errno {
	if t == nil || t.set == nil {
		return api.ErrInvalid
	}
	t.place = 0
	return api.OK
}

// Union returns a collection of the sort of a with the rows of both.
func Union(a, b *Set) (*Set, api.Errno) {
	if a == nil || b == nil {
		return nil, api.ErrInvalid
	}
	s := a.empty()
	s.rows = a.Rows()
	for _, r := range b.rows {
		switch i := s.instead(r); {
		case s.admits(r, i) != api.OK:
			return nil, api.ErrKind
		case i >= 0:
			s.rows[i] = cloned(r)
		default:
			s.insert(s.place(r), r)
		}
	}
	if len(s.rows) > maxRows {
		return nil, api.ErrLimit
	}
	return s, api.OK
}

// instead returns the index of the row in the place of which another one comes, or -1.
func (s *Set) instead(r []api.Prop) int {
	if s.sort != keyed {
		return -1
	}
	i, there := s.withKey(r)
	if !there {
		return -1
	}
	return i
}

// Minus returns a without the rows that b has.
func Minus(a, b *Set) (*Set, api.Errno) {
	if a == nil || b == nil {
		return nil, api.ErrInvalid
	}
	s := a.empty()
	s.rows = a.Rows()
	for _, r := range b.rows {
		if i := s.index(r); i >= 0 {
			s.remove(i)
		}
	}
	return s, api.OK
}
