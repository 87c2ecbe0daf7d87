package adapter

import (
	"maps"
	"slices"
	"strconv"
	"strings"

	"intermede/api"
)

// finder finds the servant of an id that is not in the map, or tells why there is none.
type finder struct {
	find func(t *Tree, a *adapter, id string) (servant, status int)
}

// finders are chosen by the process policy.
func finders() [byManager + 1]finder {
	return [byManager + 1]finder{
		byMap: {func(*Tree, *adapter, string) (int, int) { return 0, noObject }},
		byDefault: {func(t *Tree, a *adapter, id string) (int, int) {
			if a.standard == 0 {
				return 0, noObject
			}
			return a.standard, began
		}},
		byManager: {(*Tree).managed},
	}
}

// managed asks the manager for a servant: where ids are retained it is incarnated.
func (t *Tree) managed(a *adapter, id string) (servant, status int) {
	switch {
	case a.manager == nil || slices.Contains(a.manager.Refuses, id):
		return 0, noObject
	case slices.Contains(a.manager.Forwards, id):
		return 0, forwarded
	}
	servant = a.manager.First + a.given
	if a.retain {
		if a.unique && a.stands(servant) {
			return 0, noObject
		}
		if t.ids() >= maxIDs {
			return 0, full
		}
		a.ids[id] = &object{servant: servant}
	}
	a.given++
	return servant, began
}

// try lets a call begin, if it can.
func (t *Tree) try(a *adapter, c *call) api.Begun {
	b := api.Begun{Call: c.number, Path: a.path, ID: c.id}
	o := a.ids[c.id]
	switch {
	case a.state == discarding:
		b.Status = transient
	case a.state == inactive:
		b.Status = noAdapter
	case a.state == holding, a.single && len(a.under) > 0, o != nil && o.going:
		b.Status = waits
	case o != nil:
		b.Servant = o.servant
	default:
		b.Servant, b.Status = finders()[a.process].find(t, a, c.id)
	}
	if b.Status == forwarded {
		b.Target = a.manager.Target
	}
	if b.Status == began {
		c.servant = b.Servant
		a.under[c.number], t.calls[c.number] = c, c
	}
	return b
}

// again tries the calls that wait in an adapter: what became of those that wait no more is returned.
func (t *Tree) again(a *adapter) []api.Begun {
	var told []api.Begun
	var left []*call
	for c := range a.queued() {
		b := t.try(a, c)
		if b.Status == waits {
			left = append(left, c)
			continue
		}
		if b.Status == full { // nobody is there any more to be told of a limit
			b.Status = noObject
		}
		told = append(told, b)
	}
	a.waiting = left
	return told
}

// waitingCalls counts the calls that wait.
func (t *Tree) waitingCalls() int {
	n := 0
	for _, a := range t.adapters {
		n += len(a.waiting)
	}
	return n
}

// Begin lets a call come.
func (t *Tree) Begin(path, id string) (api.Begun, api.Errno) {
	if t == nil || !isID(id) {
		return api.Begun{}, api.ErrInvalid
	}
	if t.waitingCalls()+len(t.calls) >= maxCalls {
		return api.Begun{}, api.ErrLimit
	}
	t.last++
	a := t.adapters[path]
	if a == nil {
		return api.Begun{Call: t.last, Path: path, ID: id, Status: noAdapter}, api.OK
	}
	c := &call{number: t.last, id: id, in: a}
	b := t.try(a, c)
	switch b.Status {
	case full:
		t.last--
		return api.Begun{}, api.ErrLimit
	case waits:
		a.waiting = append(a.waiting, c)
	}
	return b, api.OK
}

// leave takes an id out of the map; its servant is etherealised, if there is a manager for that.
func (t *Tree) leave(a *adapter, id string) {
	servant := a.ids[id].servant
	delete(a.ids, id)
	if a.manager != nil && a.retain && (!a.going || a.etherealise) {
		t.gone = append(t.gone, api.Gone{Path: a.path, ID: id, Servant: servant, Others: a.stands(servant), Adapter: a.going})
	}
}

// leaveIfFree takes an id that goes out of the map, if no call of it is under way.
func (t *Tree) leaveIfFree(a *adapter, id string) {
	if o := a.ids[id]; o == nil || !o.going {
		return
	}
	for _, c := range a.under {
		if c.id == id {
			return
		}
	}
	t.leave(a, id)
}

// endIfFree ends an adapter that goes, if no call is under way in it.
func (t *Tree) endIfFree(a *adapter) {
	if !a.going || len(a.under) > 0 {
		return
	}
	for _, id := range slices.Sorted(maps.Keys(a.ids)) {
		t.leave(a, id)
	}
	delete(t.adapters, a.path)
}

// End tells that a call has ended.
func (t *Tree) End(call int) (l []api.Begun, e api.Errno) {
	if t == nil {
		return nil, api.ErrInvalid
	}
	c := t.calls[call]
	if c == nil {
		return nil, api.ErrNone
	}
	// Those that wait are tried behind all else, as an id that is gone may let them begin.
	defer func() { l = t.again(c.in) }()
	delete(t.calls, call)
	delete(c.in.under, call)
	t.leaveIfFree(c.in, c.id)
	t.endIfFree(c.in)
	return nil, api.OK
}

// below returns the adapters below one and it itself, those below first, by their names.
func (t *Tree) below(path string) []*adapter {
	var l []*adapter
	kids, _ := t.Kids(path)
	for _, name := range kids {
		l = append(l, t.below(strings.TrimPrefix(path+"/"+name, "/"))...)
	}
	return append(l, t.adapters[path])
}

// Destroy lets an adapter and all below it go.
func (t *Tree) Destroy(path string, etherealise bool) ([]api.Begun, api.Errno) {
	if _, e := t.find(path); e != api.OK {
		return nil, e
	}
	if path == "" {
		return nil, api.ErrState
	}
	var told []api.Begun
	for _, a := range t.below(path) {
		if a.going {
			continue
		}
		a.state, a.going, a.etherealise = inactive, true, etherealise
		told = append(told, t.again(a)...)
		t.endIfFree(a)
	}
	return told, api.OK
}

// Key makes the key of an object.
func Key(path, id string, epoch int, persistent bool) (string, api.Errno) {
	if !isPath(path) || !isID(id) {
		return "", api.ErrInvalid
	}
	if epoch < 0 {
		return "", api.ErrRange
	}
	sort := "t"
	if persistent {
		sort, epoch = "p", 0
	}
	return sort + strconv.Itoa(epoch) + ":" + path + ":" + id, api.OK
}

// OfKey reads the key of an object.
func OfKey(key string) (path, id string, epoch int, persistent bool, e api.Errno) {
	number, rest, _ := strings.Cut(key, ":")
	path, id, _ = strings.Cut(rest, ":")
	if number != "" {
		persistent = number[0] == 'p'
		epoch, _ = strconv.Atoi(number[1:])
	}
	if again, e := Key(path, id, epoch, persistent); e != api.OK || again != key {
		return "", "", 0, false, api.ErrSyntax
	}
	return path, id, epoch, persistent, api.OK
}
