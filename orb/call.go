package orb

import (
	"strconv"
	"strings"

	"intermede/api"
	"intermede/body"
	"intermede/ref"
	"intermede/stub"
)

// asked is a call as it is asked for.
type asked struct {
	target, op string
	args       []api.Graph
	mark       string
	how        api.How
}

// refusal is what is panicked with where a call is refused at first.
type refusal string

// written writes arguments as those are that are compared and measured.
func written(op operation, known []api.Type, args []api.Graph) (string, api.Errno) {
	return stub.WriteQuestion(op.Op, known, args, false, 0)
}

// first asks what is asked of a call first, and returns the host that it is to be asked at; none if it is refused.
func (o *Orb) first(c asked) (at *host, q question, refused api.Outcome) {
	defer func() {
		if p := recover(); p != nil {
			name, _ := p.(refusal)
			at, q, refused = nil, question{}, body.System(string(name), api.DoneNo)
		}
	}()
	must := func(ok bool, name refusal) {
		if !ok {
			panic(name)
		}
	}
	r, e := ref.Parse(c.target)
	must(e == api.OK && !ref.Nil(r), "reference")
	at, x := o.find(r)
	must(x != nil, "object")
	op, there := o.ops[x.class.Interface()][c.op]
	must(there, "operation")
	must(body.Fit(op.Op, o.known, c.args), "arguments")
	s, e := written(op, o.known, c.args)
	must(e == api.OK && len(s) <= body.MaxBytes, "limit")
	must(strings.Count(c.mark, "/") <= maxDeep, "deep")
	return at, question{x.key, c.mark, s, op, clones(c.args), c.how}, api.Outcome{}
}

// call makes a call from a host, with the number of its request (0: one of the host's own); tell is told its outcome.
func (h *host) call(c asked, number int, tell func(api.Outcome)) {
	at, q, refused := h.orb.first(c)
	if at == nil {
		tell(refused)
		return
	}
	h.orb.made++
	w := &wait{question: q, number: number, order: h.orb.made, at: at, tell: tell}
	if number == 0 {
		w.number = maxTickets + w.order
	}
	if q.op.Oneway {
		h.let(w)
		tell(api.Outcome{})
		return
	}
	if q.how.Limit > 0 {
		w.until = h.orb.net.Now() + q.how.Limit
	}
	h.waits[w.number] = w
	h.ask(w)
}

// let makes a call of a one-way operation, for which nothing waits.
func (h *host) let(w *wait) {
	if w.at != h {
		h.sendRequest(w)
		return
	}
	h.serve(w.question, func(out api.Outcome) {
		if out.State == api.SForward {
			w.at = h.forwards[w.key]
			h.sendRequest(w)
		}
	})
}

// sendRequest sends the request of a call to where it is to be asked.
func (h *host) sendRequest(w *wait) {
	bytes, e := h.orb.form(w.op, w.how.Dynamic, w.how.Big).Question(w.args)
	if e != api.OK {
		return
	}
	h.send(w.at.number, api.Message{
		Kind: api.MRequest, Big: w.how.Big, Number: w.number, Answer: !w.op.Oneway, Key: w.key, Op: w.op.Name, Body: bytes,
		Contexts: []api.Context{{Tag: markTag, Text: w.mark}, {Tag: onceTag, Text: strconv.Itoa(w.how.Once)}},
	})
}

// ask asks the question of a call where it is to be asked: at once on the same host, otherwise over the network.
func (h *host) ask(w *wait) {
	if w.at == h {
		w.again = 0
		h.serve(w.question, func(out api.Outcome) { h.told(w.number, out) })
		return
	}
	if w.how.Once == 2 {
		w.again = h.orb.net.Now() + w.how.Pause
	}
	h.sendRequest(w)
}

// told tells the outcome of the call with a number, if it waits; a forward lets it ask elsewhere.
func (h *host) told(number int, out api.Outcome) {
	w := h.waits[number]
	if w == nil {
		return
	}
	if out.State == api.SForward {
		r, _ := ref.Parse(out.Ref)
		to, _ := h.orb.place(r)
		if w.forwards++; w.forwards <= maxForwards && to != nil {
			w.at = to
			h.ask(w)
			return
		}
		out = body.System("forwards", api.DoneNo)
	}
	delete(h.waits, number)
	w.tell(out)
}

// howOf returns how the calls are made that are made because of one from outside.
func (o *Orb) howOf(mark string) (api.How, bool) {
	root, _, _ := strings.Cut(mark, "/")
	n, _ := strconv.Atoi(root[strings.LastIndexByte(root, '.')+1:])
	if n < 1 || n > len(o.tickets) {
		return api.How{}, false
	}
	return o.tickets[n-1].how, true
}

// Call makes a call, and returns its ticket.
func (o *Orb) Call(host int, target, op string, args []api.Graph, how api.How) (int, api.Errno) {
	if o == nil || !ValidHow(how) {
		return 0, api.ErrInvalid
	}
	if e := o.asked(host); e != api.OK {
		return 0, e
	}
	switch {
	case !o.net.IsUp(host):
		return 0, api.ErrState
	case len(o.tickets) >= maxTickets:
		return 0, api.ErrLimit
	}
	t := &ticket{host: host, how: how}
	o.tickets = append(o.tickets, t)
	number, h := len(o.tickets), o.hosts[host]
	mark := strconv.Itoa(host) + "." + strconv.Itoa(h.epoch) + "." + strconv.Itoa(number)
	h.call(asked{target, op, args, mark, how}, number, func(out api.Outcome) { t.over, t.out = true, out })
	return number, api.OK
}
