package txn

import (
	"slices"

	"intermede/api"
)

// The kinds of deeds.
const (
	doBegin = 1 + iota
	doWrite
	doAdd
	doCommit
	doRollback
)

// The limits of worlds.
const (
	maxResources = 8
	maxDeed      = 1000000
	maxNumber    = 1000
)

// entry is what a resource forces into its log: it prepared a number for a transaction, took it over, or dropped it.
type entry struct{ kind, txn, n int }

const (
	prepared = 1 + iota
	taken
	dropped
)

// resource has a number, and one transaction at a time that changes it.
type resource struct {
	name  string
	log   []entry
	value int
	owner int // 0: none
	next  int // the owner's number
}

// rise makes a resource anew of its log: what was not forced is forgotten.
func (r *resource) rise() {
	log := r.log
	*r = resource{name: r.name, log: log}
	next := 0
	for i, x := range log {
		switch x.kind {
		case prepared:
			next = x.n
			if i == len(log)-1 {
				r.owner, r.next = x.txn, x.n
			}
		case taken:
			r.value = next
		}
	}
}

// force puts an entry of its owner into the log.
func (r *resource) force(kind int) { r.log = append(r.log, entry{kind, r.owner, r.next}) }

// World is a manager and its resources.
type World struct {
	manager   *Manager
	resources []*resource
	committed []bool // whether the transactions were, by their numbers
	moment    func() // is called at each moment at which everything may fall
}

// NewWorld returns a world with resources of the names.
func NewWorld(names []string) (*World, api.Errno) {
	if len(names) < 1 || len(names) > maxResources {
		return nil, api.ErrInvalid
	}
	w := &World{manager: New(), committed: make([]bool, 1), moment: func() {}}
	for i, name := range names {
		if !isName(name) || slices.Contains(names[:i], name) {
			return nil, api.ErrInvalid
		}
		w.resources = append(w.resources, &resource{name: name})
	}
	return w, api.OK
}

// resource returns the resource with a name.
func (w *World) resource(name string) *resource {
	i := slices.IndexFunc(w.resources, func(r *resource) bool { return r.name == name })
	if i < 0 {
		return nil
	}
	return w.resources[i]
}

// Do does a deed.
func (w *World) Do(a api.Deed) api.Errno {
	if w == nil || w.manager == nil || a.N < -maxDeed || a.N > maxDeed {
		return api.ErrInvalid
	}
	switch a.Kind {
	case doBegin:
		_, e := w.manager.Begin(0)
		if e == api.OK {
			w.committed = append(w.committed, false)
		}
		return e
	case doWrite, doAdd:
		return w.write(a)
	case doCommit:
		if e := w.manager.Commit(a.Txn); e != api.OK {
			return e
		}
		w.run()
		if state, _ := w.manager.State(a.Txn); state == committed {
			w.committed[a.Txn] = true
		}
		return api.OK
	case doRollback:
		if e := w.manager.Rollback(a.Txn); e != api.OK {
			return e
		}
		w.run()
		return api.OK
	}
	return api.ErrInvalid
}

// write changes a transaction's number of a resource.
func (w *World) write(a api.Deed) api.Errno {
	if !isName(a.Name) {
		return api.ErrInvalid
	}
	state, e := w.manager.State(a.Txn)
	if e != api.OK {
		return e
	}
	r := w.resource(a.Name)
	switch {
	case r == nil || state != active:
		return api.ErrNone
	case r.owner != 0 && r.owner != a.Txn:
		return api.ErrState
	case r.owner == 0:
		if e := w.manager.Enlist(a.Txn, a.Name); e != api.OK {
			return e
		}
		r.owner, r.next = a.Txn, r.value
	}
	if a.Kind == doWrite {
		r.next = 0
	}
	r.next += a.N
	return api.OK
}

// run does all orders that are due; everything may fall before, between and behind doing one and telling its answer.
func (w *World) run() {
	for {
		o, e := w.manager.Next()
		if e != api.OK {
			return
		}
		w.moment()
		answer := w.obey(o)
		w.moment()
		w.manager.Tell(answer)
		w.moment()
	}
}

// obey does an order, and returns the answer.
func (w *World) obey(o api.Order) int {
	r := w.resource(o.Name)
	mine := r.owner == o.Txn
	fits := r.next >= -maxNumber && r.next <= maxNumber
	switch {
	case o.Kind == prepare && !mine:
		return readOnly
	case (o.Kind == prepare || o.Kind == one) && mine && !fits:
		r.free()
		return no
	case o.Kind == prepare:
		r.force(prepared)
	case o.Kind == one && mine:
		r.force(prepared)
		w.take(r)
	case o.Kind == commit && mine:
		w.take(r)
	case o.Kind == rollBack && mine:
		r.drop()
	}
	return yes
}

// take takes the owner's number over.
func (w *World) take(r *resource) {
	r.force(taken)
	r.value = r.next
	w.committed[r.owner] = true
	r.free()
}

// drop drops the owner's number.
func (r *resource) drop() {
	r.force(dropped)
	r.free()
}

func (r *resource) free() { r.owner, r.next = 0, 0 }

// Values returns the numbers of the resources.
func (w *World) Values() []int {
	if w == nil {
		return nil
	}
	var l []int
	for _, r := range w.resources {
		l = append(l, r.value)
	}
	return l
}

// Locked returns the names of the resources that a transaction has.
func (w *World) Locked() []string {
	if w == nil {
		return nil
	}
	var l []string
	for _, r := range w.resources {
		if r.owner != 0 {
			l = append(l, r.name)
		}
	}
	return l
}

// rise makes everything anew of the logs; what is prepared asks at once, then the orders that are due are done.
func (w *World) rise() {
	m, _, e := Recover(w.manager.Log())
	if e != api.OK {
		return
	}
	m.last = len(w.committed) - 1
	w.manager = m
	for _, r := range w.resources {
		r.rise()
		switch {
		case r.owner == 0:
		case m.Ask(r.owner) == 1:
			w.take(r)
		default:
			r.drop()
		}
	}
	w.run()
}

// fall is what is panicked with when everything falls.
type fall struct{}

// stands does something, and reports whether nothing fell.
func stands(do func()) (ok bool) {
	defer func() {
		if _, fell := recover().(fall); fell {
			ok = false
		}
	}()
	do()
	return true
}

// Play does deeds in a world in which everything falls and rises at moments.
func Play(names []string, deeds []api.Deed, falls []int) (values []int, states []int, e api.Errno) {
	w, e := NewWorld(names)
	if e != api.OK {
		return nil, nil, e
	}
	for i, at := range falls {
		if at < 0 || i > 0 && falls[i-1] >= at {
			return nil, nil, api.ErrRange
		}
	}
	moments := 0
	w.moment = func() {
		moments++
		if len(falls) > 0 && falls[0] == moments-1 {
			falls = falls[1:]
			panic(fall{})
		}
	}
	play := func(a api.Deed) {
		ok := stands(func() { w.Do(a) })
		for !ok {
			ok = stands(w.rise)
		}
	}
	for _, a := range deeds {
		play(a)
	}
	for n := 1; n < len(w.committed); n++ {
		play(api.Deed{Kind: doRollback, Txn: n})
	}
	for _, ok := range w.committed[1:] {
		state := rolledBack
		if ok {
			state = committed
		}
		states = append(states, state)
	}
	return w.Values(), states, api.OK
}
