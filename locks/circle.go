package locks

import (
	"maps"
	"slices"

	"intermede/api"
)

const maxEdges = 1000

// waitsFor returns the owners for which an owner waits: of those before it in the line from an index on. It tells the owner's own index, too.
func (s *Sets) waitsFor(number, from int) (l []int, place int) {
	o := s.owners[number]
	line := s.sets[o.set].line
	place = slices.IndexFunc(line, func(w waiter) bool { return w.owner == number })
	for other := range s.clashing(number, o.set, line[place].mode) {
		l = append(l, other)
	}
	if !s.isHolder(number, o.set) {
		for ; from < place; from++ {
			l = append(l, line[from].owner)
		}
	}
	return l, place
}

// WaitsFor returns the owners for which an owner waits.
func (s *Sets) WaitsFor(owner int) ([]int, api.Errno) {
	o, e := s.find(owner)
	if e != api.OK || !o.waits {
		return nil, e
	}
	l, _ := s.waitsFor(owner, 0)
	slices.Sort(l)
	return slices.Compact(l), api.OK
}

// inCircle reports whether an owner waits for itself; an owner waits for its children, too, since it does not go on before them.
func (s *Sets) inCircle(start int) bool {
	seen := map[int]bool{}
	passed := map[int]int{} // how many of each line, from its front, were followed
	steps := func(at int) []int {
		o := s.owners[at]
		if !o.waits {
			return o.children
		}
		l, place := s.waitsFor(at, passed[o.set])
		if !s.isHolder(at, o.set) {
			passed[o.set] = max(passed[o.set], place)
		}
		return append(l, o.children...)
	}
	var leads func(at int) bool
	leads = func(at int) bool {
		for _, next := range steps(at) {
			if next == start {
				return true
			}
			if !seen[next] {
				seen[next] = true
				if leads(next) {
					return true
				}
			}
		}
		return false
	}
	return leads(start)
}

// Circle returns the least circle of edges.
func Circle(edges [][2]int) ([]int, bool, api.Errno) {
	if slices.ContainsFunc(edges, func(e [2]int) bool { return e[0] < 0 || e[1] < 0 }) {
		return nil, false, api.ErrRange
	}
	if len(edges) > maxEdges {
		return nil, false, api.ErrLimit
	}
	next, back := map[int][]int{}, map[int][]int{}
	for _, e := range edges {
		next[e[0]] = append(next[e[0]], e[1])
		back[e[1]] = append(back[e[1]], e[0])
	}
	var least []int
starts:
	for _, start := range slices.Sorted(maps.Keys(next)) {
		far := distances(back, start)
		length := 0
		for _, to := range next[start] {
			if d, there := far[to]; there && (length == 0 || d+1 < length) {
				length = d + 1
			}
		}
		if length == 0 || least != nil && length >= len(least) {
			continue starts
		}
		least = walk(next, far, start, length)
	}
	return least, least != nil, api.OK
}

// distances returns how far it is to a number from those that lead to it over none below it.
func distances(back map[int][]int, start int) map[int]int {
	far := map[int]int{start: 0}
	for l := []int{start}; len(l) > 0; l = l[1:] {
		for _, from := range back[l[0]] {
			if _, there := far[from]; !there && from > start {
				far[from] = far[l[0]] + 1
				l = append(l, from)
			}
		}
	}
	return far
}

// walk returns the circle of a length from its least number on, over the least numbers.
func walk(next map[int][]int, far map[int]int, start, length int) []int {
	path := []int{start}
	var on func(at, left int)
	on = func(at, left int) {
		if left == 0 {
			return
		}
		to := -1
		for _, n := range next[at] {
			if d, there := far[n]; there && d == left && (to < 0 || n < to) {
				to = n
			}
		}
		path = append(path, to)
		on(to, left-1)
	}
	on(start, length-1)
	return path
}
