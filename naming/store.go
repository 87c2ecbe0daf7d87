package naming

import (
	"iter"
	"maps"
	"slices"

	"intermede/api"
)

// The limits of stores.
const (
	maxContexts = 1000
	maxBindings = 2000
)

// Why a name could not be followed.
const (
	nothing   = 1
	noContext = 2
	noObject  = 3
)

// bound is what is bound under a component: an object or a context.
type bound interface {
	// binding tells what is bound.
	binding(c api.Component) api.Binding
}

type object string

type context int

func (o object) binding(c api.Component) api.Binding {
	return api.Binding{Component: c, Object: string(o)}
}

func (x context) binding(c api.Component) api.Binding {
	return api.Binding{Component: c, Context: int(x), IsContext: true}
}

// bindings are those of a context.
type bindings map[api.Component]bound

// sorted goes through the components of a context, in their order.
func (b bindings) sorted() iter.Seq2[api.Component, bound] {
	return func(yield func(api.Component, bound) bool) {
		for _, c := range slices.SortedFunc(maps.Keys(b), order) {
			if !yield(c, b[c]) {
				return
			}
		}
	}
}

// Store has contexts with bindings.
type Store struct {
	contexts map[int]bindings
	next     int
	count    int // of bindings
}

// New returns a store with a root.
func New() *Store {
	return &Store{contexts: map[int]bindings{0: {}}, next: 1}
}

// there reports whether there is a context; a new store has its root.
func (s *Store) there(number int) bool {
	if s.contexts == nil {
		*s = *New()
	}
	return s.contexts[number] != nil
}

// asked asks for a store, and for contexts.
func (s *Store) asked(ok bool, numbers ...int) api.Errno {
	if s == nil || !ok {
		return api.ErrInvalid
	}
	for _, n := range numbers {
		if !s.there(n) {
			return api.ErrRange
		}
	}
	return api.OK
}

// follow follows all components of a name but the last one: it returns the context that was reached.
func (s *Store) follow(number int, n []api.Component) (int, api.Rest, api.Errno) {
	for i, c := range n[:len(n)-1] {
		switch x := s.contexts[number][c].(type) {
		case object:
			return 0, api.Rest{Done: i, Why: noContext}, api.ErrKind
		case context:
			if s.there(int(x)) {
				number = int(x)
				continue
			}
		}
		return 0, api.Rest{Done: i, Why: nothing}, api.ErrNone
	}
	return number, api.Rest{}, api.OK
}

// place is where a name is bound, or would be.
type place struct {
	in   bindings
	last api.Component
	rest api.Rest // where the last component could not be followed
}

// find follows a name up to its last component.
func (s *Store) find(number int, n []api.Component) (place, api.Rest, api.Errno) {
	if e := s.asked(Valid(n), number); e != api.OK {
		return place{}, api.Rest{}, e
	}
	reached, rest, e := s.follow(number, n)
	if e != api.OK {
		return place{}, rest, e
	}
	return place{s.contexts[reached], n[len(n)-1], api.Rest{Done: len(n) - 1}}, api.Rest{}, api.OK
}

// put binds something.
func (s *Store) put(p place, x bound) api.Errno {
	if p.in[p.last] == nil {
		if s.count >= maxBindings {
			return api.ErrLimit
		}
		s.count++
	}
	p.in[p.last] = x
	return api.OK
}

// Make makes a context that is bound nowhere.
func (s *Store) Make() (int, api.Errno) {
	if e := s.asked(true, 0); e != api.OK {
		return 0, e
	}
	if len(s.contexts) >= maxContexts {
		return 0, api.ErrLimit
	}
	s.contexts[s.next] = bindings{}
	s.next++
	return s.next - 1, api.OK
}

// bind binds something where nothing is bound.
func (s *Store) bind(number int, n []api.Component, x bound) (api.Rest, api.Errno) {
	p, rest, e := s.find(number, n)
	switch {
	case e != api.OK:
		return rest, e
	case p.in[p.last] != nil:
		return api.Rest{}, api.ErrDuplicate
	}
	return api.Rest{}, s.put(p, x)
}

// Bind binds a name to an object.
func (s *Store) Bind(context int, n []api.Component, obj string) (api.Rest, api.Errno) {
	if len(obj) > api.MaxText {
		return api.Rest{}, api.ErrInvalid
	}
	return s.bind(context, n, object(obj))
}

// BindContext binds a name to a context.
func (s *Store) BindContext(number int, n []api.Component, other int) (api.Rest, api.Errno) {
	if e := s.asked(Valid(n), number, other); e != api.OK {
		return api.Rest{}, e
	}
	return s.bind(number, n, context(other))
}

// Rebind binds a name to an object, also in the place of one.
func (s *Store) Rebind(number int, n []api.Component, obj string) (api.Rest, api.Errno) {
	if len(obj) > api.MaxText {
		return api.Rest{}, api.ErrInvalid
	}
	p, rest, e := s.find(number, n)
	if e != api.OK {
		return rest, e
	}
	if _, is := p.in[p.last].(context); is {
		p.rest.Why = noObject
		return p.rest, api.ErrKind
	}
	return api.Rest{}, s.put(p, object(obj))
}

// RebindContext binds a name to a context, also in the place of one.
func (s *Store) RebindContext(number int, n []api.Component, other int) (api.Rest, api.Errno) {
	if e := s.asked(Valid(n), number, other); e != api.OK {
		return api.Rest{}, e
	}
	p, rest, e := s.find(number, n)
	if e != api.OK {
		return rest, e
	}
	if _, is := p.in[p.last].(object); is {
		p.rest.Why = noContext
		return p.rest, api.ErrKind
	}
	return api.Rest{}, s.put(p, context(other))
}

// MakeAt makes a context, and binds a name to it.
func (s *Store) MakeAt(number int, n []api.Component) (int, api.Rest, api.Errno) {
	p, rest, e := s.find(number, n)
	switch {
	case e != api.OK:
		return 0, rest, e
	case p.in[p.last] != nil:
		return 0, api.Rest{}, api.ErrDuplicate
	case s.count >= maxBindings:
		return 0, api.Rest{}, api.ErrLimit
	}
	made, e := s.Make()
	if e != api.OK {
		return 0, api.Rest{}, e
	}
	return made, api.Rest{}, s.put(p, context(made))
}

// Resolve returns what a name means.
func (s *Store) Resolve(number int, n []api.Component) (api.Binding, api.Rest, api.Errno) {
	p, rest, e := s.find(number, n)
	if e != api.OK {
		return api.Binding{}, rest, e
	}
	x := p.in[p.last]
	if c, is := x.(context); x == nil || is && !s.there(int(c)) {
		p.rest.Why = nothing
		return api.Binding{}, p.rest, api.ErrNone
	}
	return x.binding(p.last), api.Rest{}, api.OK
}

// Unbind takes a binding away.
func (s *Store) Unbind(number int, n []api.Component) (api.Rest, api.Errno) {
	p, rest, e := s.find(number, n)
	if e != api.OK {
		return rest, e
	}
	if p.in[p.last] == nil {
		p.rest.Why = nothing
		return p.rest, api.ErrNone
	}
	delete(p.in, p.last)
	s.count--
	return api.Rest{}, api.OK
}

// Destroy takes a context away.
func (s *Store) Destroy(number int) api.Errno {
	if e := s.asked(true, number); e != api.OK {
		return e
	}
	if number == 0 || len(s.contexts[number]) > 0 {
		return api.ErrState
	}
	delete(s.contexts, number)
	return api.OK
}

// List returns some bindings of a context, and how many there are.
func (s *Store) List(number, from, most int) ([]api.Binding, int, api.Errno) {
	if e := s.asked(true, number); e != api.OK {
		return nil, 0, e
	}
	if from < 0 || most < 0 {
		return nil, 0, api.ErrRange
	}
	var l []api.Binding
	i := 0
	for c, x := range s.contexts[number].sorted() {
		if i >= from && len(l) < most {
			l = append(l, x.binding(c))
		}
		i++
	}
	return l, i, api.OK
}

// Contexts returns the numbers of the contexts.
func (s *Store) Contexts() []int {
	if s.asked(true, 0) != api.OK {
		return nil
	}
	return slices.Sorted(maps.Keys(s.contexts))
}
