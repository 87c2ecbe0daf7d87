package msg

import (
	"iter"

	"intermede/api"
	"intermede/cdr"
)

// stop is what a reader panics with: the place of the first wrong byte, -1 where bytes lack that may come still.
type stop int

// reader reads a message: s are the bytes of it that are there, end is where it ends as its length tells.
type reader struct {
	*cdr.Reader
	s   string
	end int
}

// wait tells that bytes lack: at the end of the message they never come.
func (r *reader) wait() {
	if len(r.s) < r.end {
		panic(stop(-1))
	}
	panic(stop(r.end))
}

func (r *reader) wrong(place int) { panic(stop(place)) }

// need asks for a number of bytes behind the padding for a size, which must be right as far as it is there.
func (r *reader) need(size int) {
	pad, _ := cdr.Pad(r.Place(), size)
	for i := r.Place(); i < r.Place()+pad; i++ {
		if i >= len(r.s) {
			r.wait()
		}
		if r.s[i] != 0 {
			r.wrong(i)
		}
	}
	if r.Place()+pad+size > len(r.s) {
		r.wait()
	}
}

func (r *reader) long() int {
	r.need(4)
	n, _ := r.Long()
	return n
}

// within takes a long, which is wrong at its place if it is not between two numbers.
func (r *reader) within(least, most int) int {
	n := r.long()
	if n < least || n > most {
		r.wrong(r.Place() - 4)
	}
	return n
}

func (r *reader) octet() int {
	r.need(1)
	n, _ := r.Octet()
	return n
}

// length takes a number of bytes that stand within the message.
func (r *reader) length(least, most int) int {
	return r.within(least, min(most, max(r.end-r.Place()-pad4(r.Place())-4, least-1)))
}

func pad4(place int) int {
	n, _ := cdr.Pad(place, 4)
	return n
}

func (r *reader) take(n int) string {
	if r.Place()+n > len(r.s) {
		r.wait()
	}
	s, _ := r.Raw(n)
	return s
}

// op takes the name of an operation: what is there of it must be right, also while the rest lacks.
func (r *reader) op() string {
	n := r.length(2, maxOp+1)
	from := r.Place()
	for i := from; i < min(from+n, len(r.s)); i++ {
		if last := i == from+n-1; last && r.s[i] != 0 || !last && !isOpByte(r.s[i]) {
			r.wrong(i)
		}
	}
	return r.take(n)[:n-1]
}

func (r *reader) number(m *api.Message) { m.Number = r.within(0, maxNumber) }

func (r *reader) contexts(m *api.Message) {
	last := -1
	for range r.within(0, maxContexts) {
		var c api.Context
		c.Tag = r.within(last+1, maxNumber)
		c.Text = r.take(r.length(0, maxText))
		last = c.Tag
		m.Contexts = append(m.Contexts, c)
	}
}

func (r *reader) request(m *api.Message) {
	r.number(m)
	n := r.octet()
	if n > 1 {
		r.wrong(r.Place() - 1)
	}
	m.Answer = n == 1
	m.Key = r.take(r.length(1, maxKey))
	m.Op = r.op()
	r.contexts(m)
}

func (r *reader) state(m *api.Message) {
	r.number(m)
	m.State = r.octet()
	if !isState(m.Kind, m.State) {
		r.wrong(r.Place() - 1)
	}
}

func (r *reader) reply(m *api.Message) {
	r.state(m)
	r.contexts(m)
}

func (r *reader) locate(m *api.Message) {
	r.number(m)
	m.Key = r.take(r.length(1, maxKey))
}

func (r *reader) nothing(*api.Message) {}

// readers read what stands before the body, by kinds.
func readers() [8]func(*reader, *api.Message) {
	return [8]func(*reader, *api.Message){
		api.MRequest: (*reader).request, api.MReply: (*reader).reply, api.MCancel: (*reader).number, api.MLocate: (*reader).locate, api.MLocated: (*reader).state, api.MClose: (*reader).nothing, api.MError: (*reader).nothing, api.MFragment: (*reader).number,
	}
}

// body takes what is left.
func (r *reader) body(m *api.Message) {
	from := r.Place()
	if from == r.end {
		if m.Kind == api.MFragment && m.More {
			r.wrong(r.end)
		}
		return
	}
	if from == len(r.s) {
		r.wait()
	}
	pad, _ := cdr.Pad(from, 8)
	begin := from + pad
	if r.end <= begin { // only padding is left
		r.wrong(from)
	}
	for i := from; i <= begin; i++ {
		switch {
		case i == len(r.s):
			r.wait()
		case i < begin && r.s[i] != 0:
			r.wrong(i)
		}
	}
	if !mayBody(m.Kind, m.State) || r.end-begin > maxBody {
		r.wrong(begin)
	}
	r.take(pad)
	m.Body = r.take(r.end - begin)
}

// first reads the first bytes, up to the length.
func first(s string) (m api.Message, end int) {
	end = headLength
	r := &reader{s: s[:min(len(s), headLength)], end: headLength + 1, Reader: cdr.NewReader(s, true, 0)}
	for i := range len(beginning) {
		if r.octet() != int(beginning[i]) {
			r.wrong(i)
		}
	}
	flags := r.octet()
	if flags > 3 {
		r.wrong(5)
	}
	m.Big, m.More = flags&1 != 0, flags&2 != 0
	m.Kind = r.octet()
	if m.Kind > api.MFragment {
		r.wrong(6)
	}
	if m.More && has(m.Kind)&hasMore == 0 {
		r.wrong(5)
	}
	if r.octet() != 0 {
		r.wrong(7)
	}
	r.need(4)
	n, _ := cdr.NewReader(r.s[8:], m.Big, 0).Long()
	if n < 0 || n > api.MaxBytes-headLength {
		r.wrong(8)
	}
	return m, headLength + n
}

// caught tells what stopped a reader, of what was recovered.
func caught(p any) (bad int, e api.Errno) {
	if place, ok := p.(stop); ok && place < 0 {
		return -1, api.ErrNone
	} else if ok {
		return int(place), api.ErrData
	}
	return 0, api.ErrData
}

// Decode reads the message at the beginning of bytes.
func Decode(s string) (m api.Message, used, bad int, e api.Errno) {
	defer func() {
		if p := recover(); p != nil {
			m, used = api.Message{}, 0
			bad, e = caught(p)
		}
	}()
	m, end := first(s)
	r := &reader{s: s[:min(len(s), end)], end: end}
	r.Reader = cdr.NewReader(r.s, m.Big, 0)
	r.take(headLength)
	readers()[m.Kind](r, &m)
	r.body(&m)
	return m, end, -1, api.OK
}

// Need returns how many bytes a message has.
func Need(s string) (n int, e api.Errno) {
	defer func() {
		if p := recover(); p != nil {
			n = 0
			_, e = caught(p)
		}
	}()
	_, n = first(s)
	return n, api.OK
}

// one is a message that was read, with the bytes that were used up to its end; or what was wrong.
type one struct {
	m    api.Message
	used int
	bad  int
	e    api.Errno
}

// messages goes through the messages in bytes; the last one may be wrong.
func messages(s string) iter.Seq[one] {
	return func(yield func(one) bool) {
		at := 0
		for {
			m, used, bad, e := Decode(s[at:])
			if e == api.ErrNone {
				return
			}
			if e == api.ErrData {
				bad += at
			}
			at += used
			if !yield(one{m, at, bad, e}) || e != api.OK {
				return
			}
		}
	}
}

// All reads messages one after the other, as many as are whole.
func All(s string) (l []api.Message, used, bad int, e api.Errno) {
	for x := range messages(s) {
		if x.e != api.OK {
			return l, used, x.bad, x.e
		}
		l = append(l, x.m)
		used = x.used
	}
	return l, used, -1, api.OK
}
