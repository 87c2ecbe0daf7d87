package event

import (
	"container/heap"
	"slices"

	"intermede/api"
)

// entry is an event of a queue, and when it came.
type entry struct {
	at int
	h  api.Happening
}

// queue is a heap of events: the one that is given first stands first.
type queue struct {
	l     []entry
	first func(a, b entry) bool
	last  int
}

// by returns which of two events comes first in an order.
func by(order int) func(a, b entry) bool {
	return func(a, b entry) bool {
		if a.at < b.at {
			return before(order, a.h, b.h)
		}
		return !before(order, b.h, a.h)
	}
}

// Len, Less, Swap, Push and Pop are asked for by package heap.
func (q *queue) Len() int           { return len(q.l) }
func (q *queue) Less(i, j int) bool { return q.first(q.l[i], q.l[j]) }
func (q *queue) Swap(i, j int)      { q.l[i], q.l[j] = q.l[j], q.l[i] }
func (q *queue) Push(x any) {
	if e, ok := x.(entry); ok {
		q.l = append(q.l, e)
	}
}
func (q *queue) Pop() any {
	e := q.l[len(q.l)-1]
	q.l = slices.Delete(q.l, len(q.l)-1, len(q.l))
	return e
}

func (q *queue) add(h api.Happening) {
	q.last++
	heap.Push(q, entry{q.last, h})
}

// take takes the first event of the order.
func (q *queue) take() api.Happening {
	h := q.l[0].h
	heap.Pop(q)
	return h
}

// order changes the order.
func (q *queue) order(order int) {
	q.first = by(order)
	heap.Init(q)
}

// drop takes the event away that goes for want of room.
func (q *queue) drop(discard int) {
	goes := 0
	for i, e := range q.l {
		g := q.l[goes]
		sooner := e.at < g.at
		switch {
		case discard == newest || discard == refused:
			sooner = e.at > g.at
		case discard == least && e.h.Priority != g.h.Priority:
			sooner = e.h.Priority < g.h.Priority
		}
		if sooner {
			goes = i
		}
	}
	heap.Remove(q, goes)
}

func isStale(h api.Happening, now int) bool { return h.Until > 0 && h.Until <= now }

// clear takes away what is stale, and returns how many these are.
func (q *queue) clear(now int) int {
	n := len(q.l)
	q.l = slices.DeleteFunc(q.l, func(e entry) bool { return isStale(e.h, now) })
	heap.Init(q)
	return n - len(q.l)
}

// sorted returns the events as they follow each other.
func (q *queue) sorted(first func(a, b entry) bool) []api.Happening {
	l := slices.Clone(q.l)
	slices.SortFunc(l, func(a, b entry) int {
		switch {
		case a.at == b.at:
			return 0
		case first(a, b):
			return -1
		}
		return 1
	})
	var out []api.Happening
	for _, e := range l {
		out = append(out, clone(e.h))
	}
	return out
}
