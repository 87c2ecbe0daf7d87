package hook

import (
	"slices"

	"intermede/api"
)

// deed is what a hook does at a point.
type deed interface {
	// change changes the outcome, and tells what was done.
	change(end *api.End) int
}

type goOn struct{}

type fail struct{ n int }

type turn struct{ target string }

func (goOn) change(*api.End) int { return wentOn }

func (f fail) change(end *api.End) int {
	*end = api.End{Kind: anError, Error: f.n}
	return hasFailed
}

func (t turn) change(end *api.End) int {
	*end = api.End{Kind: aTurn, Target: t.target}
	return hasTurned
}

// run is one side of a call.
type run struct {
	side     int
	end      api.End
	contexts []api.Slot
	made     bool
	note     func(api.Step)
	set      map[int]bool // slots that were set at the server's end points
}

// adding is what a hook does at a point at which it adds first.
func (r *run) adding(h *api.Hook, point int) deed {
	var ok bool
	r.contexts, ok = add(r.contexts, h.Adds, point, func(slot int) {
		if point >= replied {
			r.set[slot] = true
		}
	})
	if !ok {
		return fail{slotTaken}
	}
	return r.plain(h, point)
}

// plain is what a hook does at a point at which it adds nothing.
func (r *run) plain(h *api.Hook, point int) deed {
	switch {
	case slices.Contains(h.Fails, point):
		return fail{h.Error}
	case slices.Contains(h.Turns, point):
		return turn{h.Target}
	}
	return goOn{}
}

// points tell what a hook does at each of them.
func points() [turned + 1]func(*run, *api.Hook, int) deed {
	return [turned + 1]func(*run, *api.Hook, int) deed{
		ask: (*run).adding, answer: (*run).plain, wrong: (*run).plain, other: (*run).plain,
		taken: (*run).adding, begun: (*run).adding, replied: (*run).adding, failed: (*run).adding, turned: (*run).adding,
	}
}

// pass lets a hook pass a point, and reports whether it went on.
func (r *run) pass(h *api.Hook, point int) bool {
	did := points()[point](r, h, point).change(&r.end)
	r.note(api.Step{Name: h.Name, Point: point, Did: did})
	return did == wentOn
}

// finish lets a hook that began pass its end point.
func (r *run) finish(h *api.Hook) {
	r.pass(h, endPoint(r.side, r.end))
}

// through lets hooks pass around a call: those that began end in the other order.
func (r *run) through(hooks []api.Hook, call func() api.End) {
	start := ask
	if r.side == server {
		start = taken
	}
	for i := range hooks {
		if !r.pass(&hooks[i], start) {
			return
		}
		defer r.finish(&hooks[i])
	}
	for i := range hooks {
		if r.side == server && !r.pass(&hooks[i], begun) {
			return
		}
	}
	r.made = true
	end := call()
	r.end = end
}

// passed runs a side, and tells what hooks did.
func (r *run) passed(hooks []api.Hook, call func() api.End) api.Passage {
	var steps []api.Step
	r.note = func(s api.Step) { steps = append(steps, s) }
	r.set = map[int]bool{}
	r.through(hooks, call)
	return api.Passage{Steps: steps, End: r.end, Contexts: r.contexts, Made: r.made}
}

// single runs one side alone.
func single(side int, hooks []api.Hook, contexts []api.Slot, made api.End) (api.Passage, api.Errno) {
	switch {
	case !validHooks(hooks) || !validContexts(contexts) || !ValidOutcome(made):
		return api.Passage{}, api.ErrInvalid
	case twice(hooks):
		return api.Passage{}, api.ErrDuplicate
	}
	r := &run{side: side, contexts: slices.Clone(contexts)}
	return r.passed(hooks, func() api.End { return made }), api.OK
}

// Client runs the hooks of a client.
func Client(hooks []api.Hook, contexts []api.Slot, made api.End) (api.Passage, api.Errno) {
	return single(client, hooks, contexts, made)
}

// Server runs the hooks of a server.
func Server(hooks []api.Hook, contexts []api.Slot, made api.End) (api.Passage, api.Errno) {
	return single(server, hooks, contexts, made)
}

// Whole runs a client and a server.
func Whole(clients, servers []api.Hook, made api.End) (api.Passage, api.Passage, api.Errno) {
	switch {
	case !validHooks(clients) || !validHooks(servers) || !ValidOutcome(made):
		return api.Passage{}, api.Passage{}, api.ErrInvalid
	case twice(clients) || twice(servers):
		return api.Passage{}, api.Passage{}, api.ErrDuplicate
	}
	var there api.Passage
	r := &run{side: client}
	here := r.passed(clients, func() api.End {
		s := &run{side: server, contexts: slices.Clone(r.contexts)}
		there = s.passed(servers, func() api.End { return made })
		for _, c := range there.Contexts {
			if s.set[c.Slot] {
				r.contexts = put(r.contexts, c)
			}
		}
		return there.End
	})
	return here, there, api.OK
}
