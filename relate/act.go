package relate

import (
	"maps"
	"slices"

	"intermede/api"
)

// How an act goes over from an object in a role: the less, the further.
const (
	deep = 1 + iota
	shallow
	none
)

// The acts.
const (
	toCopy = 1 + iota
	toMove
	toRemove
)

// role tells how each act goes over from it.
type role api.Role

func (r role) copies() int  { return r.Copy }
func (r role) moves() int   { return r.Move }
func (r role) removes() int { return r.Remove }

func acts() [toRemove + 1]func(role) int {
	return [...]func(role) int{toCopy: role.copies, toMove: role.moves, toRemove: role.removes}
}

// plan is what an act does: the objects, and the relations.
type plan struct{ objects, ties map[int]bool }

func ascending(set map[int]bool) []int { return slices.Sorted(maps.Keys(set)) }

// plan seeks all that an act on an object does.
func (w *World) plan(id, act int) plan {
	p := plan{map[int]bool{}, map[int]bool{}}
	goes := acts()[act]
	var next []int
	do := func(objects ...int) {
		for _, o := range objects {
			if !p.objects[o] {
				p.objects[o] = true
				next = append(next, o)
			}
		}
	}
	for do(id); len(next) > 0; {
		at := next[0]
		next = next[1:]
	relations:
		for t := range w.relations(at) {
			how := none
			for i, r := range w.sorts[t.sort].Roles {
				if t.objects[i] == at {
					how = min(how, goes(role(r)))
				}
			}
			switch how {
			case none:
				continue relations
			case deep:
				do(t.objects...)
			}
			p.ties[t.id] = true
		}
	}
	return p
}

// touched returns the objects of relations that are done which are not done themselves.
func (w *World) touched(p plan) map[int]bool {
	set := map[int]bool{}
	for _, t := range w.ties {
		for _, o := range t.objects {
			if p.ties[t.id] && !p.objects[o] {
				set[o] = true
			}
		}
	}
	return set
}

// planned is plan of an object that is asked for, with numbers that are asked for, too.
func (w *World) planned(id, act int) (plan, api.Errno) {
	if e := w.has(id); e != api.OK {
		return plan{}, e
	}
	return w.plan(id, act), api.OK
}

// Plan returns what an act would do: the objects and relations that are done, and the objects that are touched.
func (w *World) Plan(id, act int) (objects, relations, touched []int, e api.Errno) {
	e = w.asked(id)
	if e == api.OK && (act < toCopy || act > toRemove) {
		e = api.ErrRange
	}
	if e != api.OK {
		return nil, nil, nil, e
	}
	p, e := w.planned(id, act)
	if e != api.OK {
		return nil, nil, nil, e
	}
	return ascending(p.objects), ascending(p.ties), ascending(w.touched(p)), api.OK
}

// askedPlace asks for a number and a place.
func (w *World) askedPlace(id, place int) api.Errno {
	e := w.asked(id)
	if e == api.OK && !isPlace(place) {
		return api.ErrRange
	}
	return e
}

// overfull reports whether copies of relations would be too many for objects that are touched.
func (w *World) overfull(p plan) bool {
	more := map[seat]int{}
	for _, t := range w.ties {
		for i, o := range t.objects {
			if p.ties[t.id] && !p.objects[o] {
				more[seat{o, t.sort, i}]++
			}
		}
	}
	for s, n := range more {
		if w.crowded(s, n) {
			return true
		}
	}
	return false
}

// Copy copies all that is done, and returns the old and new numbers of objects and of relations.
func (w *World) Copy(id, place int) ([][2]int, [][2]int, api.Errno) {
	if e := w.askedPlace(id, place); e != api.OK {
		return nil, nil, e
	}
	p, e := w.planned(id, toCopy)
	switch {
	case e != api.OK:
		return nil, nil, e
	case w.overfull(p):
		return nil, nil, api.ErrState
	case !w.roomFor(len(p.objects), len(p.ties)):
		return nil, nil, api.ErrLimit
	}
	var objects, ties [][2]int
	copies := map[int]int{}
	for _, old := range ascending(p.objects) {
		i, _ := w.findObject(old)
		copies[old] = w.put(place, w.objects[i].Text)
		objects = append(objects, [2]int{old, copies[old]})
	}
	for _, old := range ascending(p.ties) {
		i, _ := w.findTie(old)
		l := slices.Clone(w.ties[i].objects)
		for j, o := range l {
			if p.objects[o] {
				l[j] = copies[o]
			}
		}
		ties = append(ties, [2]int{old, w.relate(w.ties[i].sort, l)})
	}
	return objects, ties, api.OK
}

// Move sets the place of all objects that are done, and returns them.
func (w *World) Move(id, place int) ([]int, api.Errno) {
	if e := w.askedPlace(id, place); e != api.OK {
		return nil, e
	}
	p, e := w.planned(id, toMove)
	if e != api.OK {
		return nil, e
	}
	for i := range w.objects {
		if p.objects[w.objects[i].ID] {
			w.objects[i].Place = place
		}
	}
	return ascending(p.objects), api.OK
}

// Remove takes away all objects that are done, with all relations that are done or have such an object, and returns them.
func (w *World) Remove(id int) ([]int, []int, api.Errno) {
	if e := w.asked(id); e != api.OK {
		return nil, nil, e
	}
	p, e := w.planned(id, toRemove)
	if e != api.OK {
		return nil, nil, e
	}
	for o := range p.objects {
		for t := range w.relations(o) {
			p.ties[t.id] = true
		}
	}
	w.ties = slices.DeleteFunc(w.ties, func(t tie) bool { return p.ties[t.id] })
	w.objects = slices.DeleteFunc(w.objects, func(o api.Thing) bool { return p.objects[o.ID] })
	return ascending(p.objects), ascending(p.ties), api.OK
}
