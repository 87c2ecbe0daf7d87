package cause

import (
	"slices"
	"strconv"
	"strings"

	"intermede/api"
)

// readCut is read with a cut.
func readCut(n int, l []api.Act, cut []int) (*history, api.Errno) {
	h, e := read(n, l)
	switch {
	case e != api.OK:
		return nil, e
	case !isCut(cut, n):
		return nil, api.ErrInvalid
	}
	for node, events := range h.nodes {
		if cut[node] > len(events) {
			return nil, api.ErrRange
		}
	}
	return h, api.OK
}

// reaches reports whether a cut has all that is before the last event that it has of a node.
func (h *history) reaches(cut []int, node int) bool {
	return cut[node] == 0 || isWithin(h.clocks[h.nodes[node][cut[node]-1]], cut)
}

func (h *history) isConsistent(cut []int) bool {
	for node := range cut {
		if !h.reaches(cut, node) {
			return false
		}
	}
	return true
}

// Consistent reports whether a cut is consistent.
func Consistent(n int, l []api.Act, cut []int) (bool, api.Errno) {
	h, e := readCut(n, l, cut)
	if e != api.OK {
		return false, e
	}
	return h.isConsistent(cut), api.OK
}

// Least returns the least consistent cut that has some events.
func Least(n int, l []api.Act, events []int) ([]int, api.Errno) {
	h, e := readAt(n, l, events...)
	if e != api.OK {
		return nil, e
	}
	cut := make([]int, n)
	for _, i := range events {
		cut = joined(cut, h.clocks[i])
	}
	return cut, api.OK
}

// Greatest returns the greatest consistent cut within a cut.
func Greatest(n int, l []api.Act, cut []int) ([]int, api.Errno) {
	h, e := readCut(n, l, cut)
	if e != api.OK {
		return nil, e
	}
	cut = slices.Clone(cut)
	for !h.isConsistent(cut) {
		for node := range cut {
			for !h.reaches(cut, node) {
				cut[node]--
			}
		}
	}
	return cut, api.OK
}

// Cuts returns how many consistent cuts there are.
func Cuts(n int, l []api.Act) (int, api.Errno) {
	h, e := read(n, l)
	switch {
	case e != api.OK:
		return 0, e
	case len(l) > maxCounted:
		return 0, api.ErrLimit
	}
	all := 0
	// The cuts of so many events lead to those of one more.
	for cuts := map[[maxNodes]int]bool{{}: true}; len(cuts) > 0; {
		all += len(cuts)
		if all > maxCuts {
			return 0, api.ErrLimit
		}
		next := map[[maxNodes]int]bool{}
		for cut := range cuts {
			for node, events := range h.nodes {
				more := cut
				more[node]++
				if more[node] <= len(events) && h.reaches(more[:n], node) {
					next[more] = true
				}
			}
		}
		cuts = next
	}
	return all, api.OK
}

// Under returns the messages that a cut has sent and not received.
func Under(n int, l []api.Act, cut []int) ([]int, api.Errno) {
	h, e := readCut(n, l, cut)
	switch {
	case e != api.OK:
		return nil, e
	case !h.isConsistent(cut):
		return nil, api.ErrState
	}
	var sent []int
	received := map[int]bool{}
	for node, events := range h.nodes {
		for _, i := range events[:cut[node]] {
			switch a := l[i]; a.Kind {
			case sends:
				sent = append(sent, a.Message)
			case receives:
				received[a.Message] = true
			}
		}
	}
	slices.Sort(sent)
	return slices.DeleteFunc(sent, func(m int) bool { return received[m] }), api.OK
}

// Order returns an order of all events in which each comes behind those before it.
func Order(n int, l []api.Act, turns []int) ([]int, api.Errno) {
	h, e := read(n, l)
	switch {
	case e != api.OK:
		return nil, e
	case slices.ContainsFunc(turns, func(turn int) bool { return turn < 0 }):
		return nil, api.ErrRange
	}
	var order []int
	for cut := make([]int, n); len(order) < len(l); {
		var can []int
		for node, events := range h.nodes {
			if cut[node] == len(events) {
				continue
			}
			cut[node]++
			if h.reaches(cut, node) {
				can = append(can, events[cut[node]-1])
			}
			cut[node]--
		}
		slices.Sort(can)
		i := can[0]
		if len(order) < len(turns) {
			i = can[turns[len(order)]%len(can)]
		}
		cut[l[i].Node]++
		order = append(order, i)
	}
	return order, api.OK
}

// span is a call: its beginning and its end, which may be none (-1).
type span struct{ number, from, to int }

// spans returns the calls, ascending.
func (h *history) spans() []span {
	ended := map[int]int{}
	var l []span
	for i, a := range h.acts {
		switch a.Kind {
		case begins:
			l = append(l, span{a.Call, i, -1})
		case ends:
			ended[a.Call] = i
		}
	}
	for i, s := range l {
		if to, there := ended[s.number]; there {
			l[i].to = to
		}
	}
	slices.SortFunc(l, func(a, b span) int { return a.number - b.number })
	return l
}

// parents returns the number of the parent of each call.
func (h *history) parents(l []span) []int {
	var parents []int
	for _, s := range l {
		parent, height := 0, 0
		for _, o := range l {
			within := h.isBefore(o.from, s.from) && (o.to < 0 || !h.isBefore(o.to, s.from))
			// Those of equal heights ascend by numbers, so that the greatest one is left.
			if within && h.heights[o.from] >= height {
				parent, height = o.number, h.heights[o.from]
			}
		}
		parents = append(parents, parent)
	}
	return parents
}

// Parents returns the parent of each call.
func Parents(n int, l []api.Act) ([][2]int, api.Errno) {
	h, e := read(n, l)
	if e != api.OK {
		return nil, e
	}
	calls := h.spans()
	var pairs [][2]int
	for i, parent := range h.parents(calls) {
		pairs = append(pairs, [2]int{calls[i].number, parent})
	}
	return pairs, api.OK
}

// Tree writes the calls, children under their parents.
func Tree(n int, l []api.Act) (string, api.Errno) {
	h, e := read(n, l)
	if e != api.OK {
		return "", e
	}
	calls := h.spans()
	children := map[int][]span{}
	for i, parent := range h.parents(calls) {
		children[parent] = append(children[parent], calls[i])
	}
	var b strings.Builder
	var write func(above, parent int)
	write = func(above, parent int) {
		for _, s := range children[parent] {
			b.WriteString(strings.Repeat("  ", above) + strconv.Itoa(s.number) + " " + l[s.from].Text + "\n")
			write(above+1, s.number)
		}
	}
	write(0, 0)
	return b.String(), api.OK
}
