package repo

import (
	"iter"
	"strings"

	"intermede/api"
	"intermede/idl"
)

// anEnumerator is the kind of enumerators, beside the kinds of declarations.
const anEnumerator = -1

// entry is something with a name: of the kind of its declaration, or an enumerator.
type entry struct {
	kind     int
	path     string
	inner    *scope   // of what has names within
	complete bool     // it is not only declared ahead, and its end was read
	t        api.Type // of what is a type; of a constant
	value    api.Data // of a constant, an enumerator
	of       *entry   // the enumeration of an enumerator; what an alias names
	direct   []*entry // the bases of an interface
	ops      map[string]bool
}

// bases goes through all bases of an interface: of each direct one it itself, then its bases, each once.
func (e *entry) bases() iter.Seq[*entry] {
	return func(yield func(*entry) bool) {
		seen := map[*entry]bool{}
		var walk func(*entry) bool
		walk = func(e *entry) bool {
			for _, b := range e.direct {
				if seen[b] {
					continue
				}
				seen[b] = true
				if !yield(b) || !walk(b) {
					return false
				}
			}
			return true
		}
		walk(e)
	}
}

// bare passes aliases of interfaces and valuetypes; nil is nothing.
func (e *entry) bare() *entry {
	for e != nil && e.kind == api.DAlias && e.of != nil {
		e = e.of
	}
	return e
}

// scope is where names stand.
type scope struct {
	self  *entry // nil for the file
	out   *scope
	names map[string]*entry
}

func newScope(self *entry, out *scope) *scope {
	return &scope{self: self, out: out, names: map[string]*entry{}}
}

// path is that of a name in a scope.
func (s *scope) path(name string) string {
	if s.self == nil {
		return name
	}
	return s.self.path + "::" + name
}

// own reports whether a name is that of the scope itself.
func (s *scope) own(name string) bool {
	return s.self != nil && last(s.self.path) == name
}

// last returns the last name of a path.
func last(path string) string {
	return path[strings.LastIndexByte(path, ':')+1:]
}

// within looks for a name in what has names, and for an interface in its bases.
func (s *scope) within(name string) *entry {
	if e := s.names[name]; e != nil || s.self == nil {
		return e
	}
	for b := range s.self.bases() {
		if e := b.inner.names[name]; e != nil {
			return e
		}
	}
	return nil
}

// resolve looks for a path from a scope on; nil if it is not found.
func (s *scope) resolve(path string) *entry {
	absolute, names, _ := idl.Split(path)
	var e *entry
	for around := s; around != nil && e == nil; around = around.out {
		if !absolute || around.out == nil {
			e = around.within(names[0])
		}
	}
	for _, name := range names[1:] {
		if e == nil || e.inner == nil {
			return nil
		}
		e = e.inner.within(name)
	}
	return e
}
