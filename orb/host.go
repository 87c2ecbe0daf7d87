package orb

import (
	"slices"
	"strconv"
	"strings"

	"intermede/api"
	"intermede/body"
	"intermede/msg"
	"intermede/script"
	"intermede/servant"
)

// object is an object: what it was when it was stored, and the methods that are under way.
type object struct {
	*servant.Servant
	key   string
	class *script.Class
	host  *host
	saved []api.Graph
	ended int
	task  *task   // the method under way
	line  []*task // those that wait for it
	turns bool    // those that wait are let begin
}

// save stores the fields.
func (x *object) save() { x.saved = x.Servant.Fields() }

// isBusy reports whether a method is under way, or waits.
func (x *object) isBusy() bool { return x.task != nil || len(x.line) > 0 }

// isFree reports whether an object can be changed from outside.
func (x *object) isFree() bool { return !x.isBusy() && x.host.orb.net.IsUp(x.host.number) }

// fall loses what is under way, and what it has assigned.
func (x *object) fall() {
	if x.task != nil {
		x.task.run.Cancel()
	}
	x.task, x.line = nil, nil
	for i, f := range x.class.Fields() {
		x.Servant.Set(f.Name, x.saved[i])
	}
}

// memo is what a reply is remembered by.
type memo struct{ mark, key, op, question string }

// store is what survives a host's falls.
type store struct {
	objects  map[string]*object
	forwards map[string]*host
	replies  map[memo]api.Outcome
	epoch    int
}

// wait is a call that waits for its outcome: at which host it asks, when it is sent again and given up (0: never), and how it goes on.
type wait struct {
	question
	number, order int
	at            *host
	forwards      int
	again, until  int
	tell          func(api.Outcome)
}

// host is a host of an orb.
type host struct {
	store
	orb    *Orb
	number int
	waits  map[int]*wait // by the numbers of their requests
}

func newHost(o *Orb, number int) *host {
	return &host{store{map[string]*object{}, map[string]*host{}, map[memo]api.Outcome{}, 1}, o, number, map[int]*wait{}}
}

// fall loses all but the store.
func (h *host) fall() {
	h.waits = map[int]*wait{}
	for _, x := range h.objects {
		x.fall()
	}
}

// waiting returns the calls that wait, in the order in which they were made.
func (h *host) waiting() []*wait {
	var l []*wait
	for _, w := range h.waits {
		l = append(l, w)
	}
	slices.SortFunc(l, func(a, b *wait) int { return a.order - b.order })
	return l
}

// question is what is asked of an object: the operation with its arguments, also as they are written, the mark, and how it is made.
type question struct {
	key, mark, written string
	op                 operation
	args               []api.Graph
	how                api.How
}

func (q *question) memo() memo { return memo{q.mark, q.key, q.op.Name, q.written} }

// task is a method that is under way, or waits; its outcome is told by reply.
type task struct {
	question
	object *object
	run    *servant.Run
	calls  int
	reply  func(api.Outcome)
}

// serve does what is asked of an object of this host.
func (h *host) serve(q question, reply func(api.Outcome)) {
	x := h.objects[q.key]
	if x == nil {
		reply(h.elsewhere(q.key))
		return
	}
	t := &task{question: q, object: x, reply: reply}
	if q.how.Once > 0 {
		if out, there := h.replies[q.memo()]; there {
			reply(out)
			return
		}
		if x.has(q.memo()) {
			return
		}
	}
	switch {
	case x.task != nil && strings.HasPrefix(q.mark, x.task.mark+"/"):
		reply(body.System("again", api.DoneNo))
	case x.isBusy():
		x.line = append(x.line, t)
	default:
		t.begin()
	}
}

// elsewhere is the outcome of a call of an object that is not here.
func (h *host) elsewhere(key string) api.Outcome {
	to := h.forwards[key]
	if to == nil {
		return body.System("object", api.DoneNo)
	}
	i := slices.IndexFunc(h.orb.objects, func(x *object) bool { return x.key == key })
	return api.Outcome{State: api.SForward, Ref: reference(h.orb.objects[i].class.Interface(), to.number, key)}
}

// has reports whether such a call is under way.
func (x *object) has(m memo) bool {
	same := func(t *task) bool { return t.how.Once > 0 && t.memo() == m }
	return x.task != nil && same(x.task) || slices.ContainsFunc(x.line, same)
}

// begin begins a method.
func (t *task) begin() {
	run, e := t.object.Begin(t.op.Name, t.args)
	if e != api.OK {
		t.reply(body.System("arguments", api.DoneNo))
		return
	}
	t.run, t.object.task = run, t
	t.goOn()
}

// goOn lets a method go on, to its end or to a call that waits.
func (t *task) goOn() {
	for {
		state, c, out := t.run.Go(api.MaxSteps)
		if state == servant.Done {
			t.end(out)
			return
		}
		if state == servant.Waiting && !t.ask(c) {
			return
		}
	}
}

// ask makes a call of a method, and reports whether it is over at once; otherwise the method goes on when it is told.
func (t *task) ask(c servant.Call) (over bool) {
	t.calls++
	atOnce := true
	h := t.object.host
	h.call(asked{c.Target, c.Op, c.Args, t.mark + "/" + strconv.Itoa(t.calls), t.how}, 0, func(out api.Outcome) {
		t.run.Tell(out)
		if atOnce {
			over = true
			return
		}
		t.goOn()
	})
	atOnce = false
	return over
}

// end stores what a method has done, tells its outcome, and lets those that wait begin.
func (t *task) end(out api.Outcome) {
	x := t.object
	out = body.Limited(t.op.Op, x.host.orb.known, out)
	x.save()
	x.ended++
	x.task = nil
	if t.how.Once > 0 {
		x.host.replies[t.memo()] = out
	}
	t.reply(out)
	x.next()
}

// next lets those that wait for an object begin, one after the other. What begins and ends at once comes here again, and leaves it to the first one.
func (x *object) next() {
	if x.turns {
		return
	}
	x.turns = true
	for x.task == nil && len(x.line) > 0 {
		t := x.line[0]
		x.line = x.line[1:]
		t.begin()
	}
	x.turns = false
}

// receive does what a message asks for; what can't be read is left out.
func (h *host) receive(p api.Packet) {
	kinds := [...]func(*host, api.Packet, api.Message){
		api.MRequest: (*host).request, api.MReply: (*host).reply, api.MFragment: nil,
	}
	m, used, _, e := msg.Decode(p.Body)
	if e == api.OK && used == len(p.Body) && kinds[m.Kind] != nil {
		kinds[m.Kind](h, p, m)
	}
}

// The tags of the contexts of requests.
const (
	markTag = 1
	onceTag = 2
)

// request does what a request asks for.
func (h *host) request(p api.Packet, m api.Message) {
	mark, _ := msg.Context(m, markTag)
	once, _ := msg.Context(m, onceTag)
	how, there := h.orb.howOf(mark)
	if !there {
		return
	}
	how.Once, _ = strconv.Atoi(once)
	if to := h.forwards[m.Key]; to != nil && !m.Answer {
		// Nobody waits for a reply that would tell where the object is.
		h.orb.net.Send(h.number, to.number, p.Body)
		return
	}
	reply := func(op operation) func(api.Outcome) {
		return func(out api.Outcome) {
			if m.Answer {
				h.answer(p.From, m, h.orb.form(op, how.Dynamic, m.Big), out)
			}
		}
	}
	x := h.objects[m.Key]
	if x == nil {
		reply(operation{})(h.elsewhere(m.Key))
		return
	}
	op, there := h.orb.ops[x.class.Interface()][m.Op]
	if !there {
		return
	}
	args, e := h.orb.form(op, how.Dynamic, m.Big).Arguments(m.Body)
	if e != api.OK {
		return
	}
	q := question{key: m.Key, mark: mark, op: op, args: args, how: how}
	if q.written, e = written(op, h.orb.known, args); e != api.OK {
		reply(op)(body.System("arguments", api.DoneNo))
		return
	}
	h.serve(q, reply(op))
}

// answer sends a reply to a request.
func (h *host) answer(to int, m api.Message, form body.Form, out api.Outcome) {
	bytes, e := form.Outcome(out)
	if e == api.OK {
		h.send(to, api.Message{Kind: api.MReply, Big: m.Big, Number: m.Number, State: out.State, Body: bytes})
	}
}

// send sends a message.
func (h *host) send(to int, m api.Message) {
	if bytes, e := msg.Encode(m); e == api.OK {
		h.orb.net.Send(h.number, to, bytes)
	}
}

// reply takes a reply, if a call waits for it.
func (h *host) reply(p api.Packet, m api.Message) {
	w := h.waits[m.Number]
	// Where a call was sent on from is asked no more: what tells it again is not the first reply.
	if w == nil || m.State == api.SForward && w.at.number != p.From {
		return
	}
	out, e := h.orb.form(w.op, w.how.Dynamic, m.Big).Read(m.State, m.Body)
	if e == api.OK {
		h.told(m.Number, out)
	}
}
