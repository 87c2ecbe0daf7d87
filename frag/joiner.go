package frag

import (
	"maps"
	"slices"

	"intermede/api"
)

// message is what is held of an open message.
type message struct {
	body   []byte
	pieces int
}

// Joiner takes the pieces of several messages as they come.
type Joiner struct {
	most, room int
	open       map[int]message
	bytes      int
}

// New returns a joiner that holds at most so many messages, and so many bytes of them.
func New(most, room int) (*Joiner, api.Errno) {
	if most < 1 || most > maxOpen || room < 1 || room > maxRoom {
		return nil, api.ErrRange
	}
	return &Joiner{most: most, room: room, open: map[int]message{}}, api.OK
}

// forget lets an open message go.
func (j *Joiner) forget(id int) {
	j.bytes -= len(j.open[id].body)
	delete(j.open, id)
}

// Take takes a piece; whole tells that its message is whole by it.
func (j *Joiner) Take(p api.Piece) (body string, whole bool, e api.Errno) {
	if j == nil || !Valid(p) {
		return "", false, api.ErrInvalid
	}
	m, isOpen := j.open[p.ID]
	if p.Place != m.pieces {
		j.forget(p.ID)
		return "", false, api.ErrState
	}
	held := j.bytes
	if !isOpen && !p.More { // a message by itself is held alone
		held = 0
	}
	if len(m.body)+len(p.Body) > api.MaxText || held+len(p.Body) > j.room {
		j.forget(p.ID)
		return "", false, api.ErrSize
	}
	if !p.More {
		j.forget(p.ID)
		return string(m.body) + p.Body, true, api.OK
	}
	if !isOpen && len(j.open) == j.most {
		return "", false, api.ErrLimit
	}
	if !isOpen { // a body has its own end: it grows into memory of its own
		first := []byte(p.Body)
		m.body = first[:len(first):len(first)]
	} else {
		m.body = append(m.body, p.Body...)
	}
	m.pieces++
	j.open[p.ID] = m
	j.bytes += len(p.Body)
	return "", false, api.OK
}

// asked asks for an open message.
func (j *Joiner) asked(id int) (message, api.Errno) {
	if j == nil || !isNumber(id) {
		return message{}, api.ErrInvalid
	}
	m, isOpen := j.open[id]
	if !isOpen {
		return message{}, api.ErrNone
	}
	return m, api.OK
}

// Cancel forgets an open message.
func (j *Joiner) Cancel(id int) api.Errno {
	_, e := j.asked(id)
	if e == api.OK {
		j.forget(id)
	}
	return e
}

// Open returns the numbers of the open messages.
func (j *Joiner) Open() []int {
	if j == nil {
		return nil
	}
	return slices.Sorted(maps.Keys(j.open))
}

// Held returns what is held of a message, and of how many pieces.
func (j *Joiner) Held(id int) (string, int, api.Errno) {
	m, e := j.asked(id)
	return string(m.body), m.pieces, e
}

// Bytes returns how many bytes are held.
func (j *Joiner) Bytes() int {
	if j == nil {
		return 0
	}
	return j.bytes
}

// Clear forgets all messages, and returns their numbers.
func (j *Joiner) Clear() []int {
	l := j.Open()
	for _, id := range l {
		j.forget(id)
	}
	return l
}

// All takes pieces by a new joiner: the whole messages, and the first piece that was refused.
func All(l []api.Piece, most, room int) (ids []int, bodies []string, bad int, e api.Errno) {
	if len(l) > maxPieces {
		return nil, nil, 0, api.ErrInvalid
	}
	j, e := New(most, room)
	if e != api.OK {
		return nil, nil, 0, e
	}
	for i, p := range l {
		body, whole, e := j.Take(p)
		if e != api.OK {
			return ids, bodies, i, e
		}
		if whole {
			ids = append(ids, p.ID)
			bodies = append(bodies, body)
		}
	}
	return ids, bodies, -1, api.OK
}
