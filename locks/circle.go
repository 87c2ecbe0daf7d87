package locks

import (
	"maps"
	"slices"

	"intermede/api"
)

const maxEdges = 1000

// waitsFor returns the owners for which an owner waits, each once.
func (s *Sets) waitsFor(number int) []int {
	o := s.owners[number]
	if !o.waits {
		return nil
	}
	line := s.sets[o.set].line
	place := slices.IndexFunc(line, func(w waiter) bool { return w.owner == number })
	var l []int
	for other := range s.clashing(number, o.set, line[place].mode) {
		l = append(l, other)
	}
	if !s.isHolder(number, o.set) {
		for _, w := range line[:place] {
			l = append(l, w.owner)
		}
	}
	slices.Sort(l)
	return slices.Compact(l)
}

// WaitsFor returns the owners for which an owner waits.
func (s *Sets) WaitsFor(owner int) ([]int, api.Errno) {
	if _, e := s.find(owner); e != api.OK {
		return nil, e
	}
	return s.waitsFor(owner), api.OK
}

// inCircle reports whether an owner waits for itself; an owner waits for its children, too, since it does not go on before them.
func (s *Sets) inCircle(start int) bool {
	seen := map[int]bool{}
	var leads func(at int) bool
	leads = func(at int) bool {
		for _, next := range append(s.waitsFor(at), s.owners[at].children...) {
			if next == start {
				return true
			}
			if !seen[next] {
				seen[next] = true
				if leads(next) {
					return true
				}
			}
		}
		return false
	}
	return leads(start)
}

// Circle returns the least circle of edges.
func Circle(edges [][2]int) ([]int, bool, api.Errno) {
	if slices.ContainsFunc(edges, func(e [2]int) bool { return e[0] < 0 || e[1] < 0 }) {
		return nil, false, api.ErrRange
	}
	if len(edges) > maxEdges {
		return nil, false, api.ErrLimit
	}
	next, back := map[int][]int{}, map[int][]int{}
	for _, e := range edges {
		next[e[0]] = append(next[e[0]], e[1])
		back[e[1]] = append(back[e[1]], e[0])
	}
	var least []int
starts:
	for _, start := range slices.Sorted(maps.Keys(next)) {
		far := distances(back, start)
		length := 0
		for _, to := range next[start] {
			if d, there := far[to]; there && (length == 0 || d+1 < length) {
				length = d + 1
			}
		}
		if length == 0 || least != nil && length >= len(least) {
			continue starts
		}
		least = walk(next, far, start, length)
	}
	return least, least != nil, api.OK
}

// distances returns how far it is to a number from those that lead to it over none below it.
func distances(back map[int][]int, start int) map[int]int {
	far := map[int]int{start: 0}
	for l := []int{start}; len(l) > 0; l = l[1:] {
		for _, from := range back[l[0]] {
			if _, there := far[from]; !there && from > start {
				far[from] = far[l[0]] + 1
				l = append(l, from)
			}
		}
	}
	return far
}

// walk returns the circle of a length from its least number on, over the least numbers.
func walk(next map[int][]int, far map[int]int, start, length int) []int {
	path := []int{start}
	var on func(at, left int)
	on = func(at, left int) {
		if left == 0 {
			return
		}
		to := -1
		for _, n := range next[at] {
			if d, there := far[n]; there && d == left && (to < 0 || n < to) {
				to = n
			}
		}
		path = append(path, to)
		on(to, left-1)
	}
	on(start, length-1)
	return path
}
