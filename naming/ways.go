package naming

import (
	"cmp"
	"maps"
	"slices"
	"strings"

	"intermede/api"
)

// maxWays is the most ways that are told.
const maxWays = 100

// step is a binding that leads from a context to another one.
type step struct {
	part string
	to   int
}

// steps returns those from a context, in the order of their texts with what stands behind each in a longer name.
func (s *Store) steps(number int) []step {
	var l []step
	for c, x := range s.contexts[number] {
		if to, is := x.(context); is && s.there(int(to)) {
			l = append(l, step{partText(c), int(to)})
		}
	}
	slices.SortFunc(l, func(a, b step) int { return strings.Compare(a.part+"/", b.part+"/") })
	return l
}

// Reached returns the contexts that can be reached from one.
func (s *Store) Reached(number int) ([]int, api.Errno) {
	if e := s.asked(true, number); e != api.OK {
		return nil, e
	}
	seen := map[int]bool{}
	var visit func(int)
	visit = func(n int) {
		if seen[n] {
			return
		}
		seen[n] = true
		for _, x := range s.steps(n) {
			visit(x.to)
		}
	}
	visit(number)
	return slices.Sorted(maps.Keys(seen)), api.OK
}

// way is a way between two contexts: its first steps are given, behind them some others must not be taken.
type way struct {
	steps []step
	fixed int
	not   []step // at the place behind the fixed ones
}

func (w *way) text() string {
	var l []string
	for _, x := range w.steps {
		l = append(l, x.part)
	}
	return strings.Join(l, "/")
}

// seeker seeks ways to a context.
type seeker struct {
	from, to int
	out      map[int][]step
	in       map[int][]int // from where steps lead to a context
}

func newSeeker(s *Store, from, to int) *seeker {
	k := &seeker{from: from, to: to, out: map[int][]step{}, in: map[int][]int{}}
	for _, n := range s.Contexts() {
		k.out[n] = s.steps(n)
		for _, x := range k.out[n] {
			k.in[x.to] = append(k.in[x.to], n)
		}
	}
	return k
}

// distances tells how many steps lead to the context that is sought, from those that are not passed already.
func (k *seeker) distances(passed map[int]bool) map[int]int {
	far := map[int]int{k.to: 0}
	for l := []int{k.to}; len(l) > 0; l = l[1:] {
		for _, n := range k.in[l[0]] {
			if _, met := far[n]; !met && !passed[n] {
				far[n] = far[l[0]] + 1
				l = append(l, n)
			}
		}
	}
	return far
}

// best completes the fixed steps of a way to the shortest one, of several to the first by its text; false if there is none.
func (k *seeker) best(w way) (way, bool) {
	at := k.from
	passed := map[int]bool{}
	for _, x := range w.steps[:w.fixed] {
		passed[at] = true
		at = x.to
	}
	passed[at] = true
	far := k.distances(passed)
	w.steps = slices.Clone(w.steps[:w.fixed])
	var complete func(at int, not []step) bool
	complete = func(at int, not []step) bool {
		if at == k.to {
			return true
		}
		next, found := k.choose(k.out[at], far, not)
		w.steps = append(w.steps, next)
		return found && complete(next.to, nil)
	}
	return w, complete(at, w.not) && len(w.steps) <= maxComponents
}

// choose chooses a step that leads on a shortest way; the last step of a way has nothing behind its text.
func (k *seeker) choose(l []step, far map[int]int, not []step) (step, bool) {
	least := step{}
	found := false
	for _, x := range l {
		d, there := far[x.to]
		if !there || slices.Contains(not, x) {
			continue
		}
		e := far[least.to]
		if !found || d < e || d == e && d == 0 && x.part < least.part {
			least, found = x, true
		}
	}
	return least, found
}

// Ways returns the names by which a context can be reached from another one, the shortest ones first.
func (s *Store) Ways(number, other, most int) ([]string, api.Errno) {
	if e := s.asked(true, number, other); e != api.OK {
		return nil, e
	}
	if most < 1 || most > maxWays {
		return nil, api.ErrRange
	}
	if number == other {
		return nil, api.OK
	}
	k := newSeeker(s, number, other)
	var open []way
	add := func(w way) {
		if w, ok := k.best(w); ok {
			open = append(open, w)
		}
	}
	add(way{})
	var l []string
	for len(open) > 0 && len(l) < most {
		slices.SortFunc(open, func(a, b way) int {
			return cmp.Or(len(a.steps)-len(b.steps), strings.Compare(a.text(), b.text()))
		})
		w := open[0]
		open = open[1:]
		l = append(l, w.text())
		// Every other way leaves this one somewhere behind its fixed steps.
		for i := w.fixed; i < len(w.steps); i++ {
			not := []step{w.steps[i]}
			if i == w.fixed {
				not = append(not, w.not...)
			}
			add(way{steps: w.steps[:i], fixed: i, not: not})
		}
	}
	return l, api.OK
}
