package call

import (
	"intermede/api"
	"intermede/cdr"
	"intermede/msg"
	"intermede/stub"
)

// The contexts that a message can have.
const (
	maxContexts    = 16
	maxContextText = 1000
)

// ValidRoad reports whether a road is valid.
func ValidRoad(r api.Road) bool {
	if !r.Far {
		return r == api.Road{}
	}
	return r.Size == 0 || r.Size >= 8 && r.Size <= 65536 && r.Size%8 == 0
}

// Roads returns some roads.
func Roads() []api.Road {
	l := []api.Road{{}}
	for _, big := range []bool{false, true} {
		for _, dynamic := range []bool{false, true} {
			for _, size := range []int{0, 8, 64, 65536} {
				l = append(l, api.Road{Far: true, Big: big, Dynamic: dynamic, Size: size})
			}
		}
	}
	return l
}

// goes is how a call goes from the hooks to the method and back.
type goes interface {
	do(n *Node, q *question, contexts []api.Slot) api.Outcome
}

// near hands over what is asked and told as it is.
type near struct{}

// far writes it as bytes, and reads it.
type far struct{ api.Road }

func way(r api.Road) goes {
	if r.Far {
		return far{r}
	}
	return near{}
}

func (near) do(n *Node, q *question, contexts []api.Slot) api.Outcome {
	return n.run(q, q.args)
}

// form writes and reads arguments, by a plan or dynamically.
type form struct {
	*stub.Plan
	dynamic bool
	op      api.Op
	known   []api.Type
	big     bool
}

func (f form) question(args []api.Graph) (string, api.Errno) {
	if f.dynamic {
		return stub.WriteQuestion(f.op, f.known, args, f.big, 0)
	}
	return f.WriteQuestion(args, f.big, 0)
}

func (f form) arguments(s string) ([]api.Graph, api.Errno) {
	if f.dynamic {
		args, _, e := stub.ReadQuestion(f.op, f.known, s, f.big, 0)
		return args, e
	}
	args, _, e := f.ReadQuestion(s, f.big, 0)
	return args, e
}

func (f form) answer(data []api.Graph) (string, api.Errno) {
	if f.dynamic {
		return stub.WriteAnswer(f.op, f.known, data, f.big, 0)
	}
	return f.WriteAnswer(data, f.big, 0)
}

func (f form) results(s string) ([]api.Graph, api.Errno) {
	if f.dynamic {
		data, _, e := stub.ReadAnswer(f.op, f.known, s, f.big, 0)
		return data, e
	}
	data, _, e := f.ReadAnswer(s, f.big, 0)
	return data, e
}

// body writes an outcome: its answer, its exception, or its name and how far it was done.
func (f form) body(out api.Outcome) (string, api.Errno) {
	switch out.State {
	case api.SResult:
		return f.answer(out.Data)
	case api.SException:
		return stub.WriteException(f.op, f.known, out.ID, out.Data[0], f.big, 0)
	}
	w := cdr.NewWriter(f.big, 0)
	if e := w.Text(out.ID); e != api.OK {
		return "", e
	}
	e := w.Long(out.Done)
	return w.All(), e
}

// outcome reads what body wrote.
func (f form) outcome(state int, s string) (out api.Outcome, e api.Errno) {
	out.State = state
	switch state {
	case api.SResult:
		out.Data, e = f.results(s)
		return out, e
	case api.SException:
		id, g, _, e := stub.ReadException(f.op, f.known, s, f.big, 0)
		out.ID, out.Data = id, []api.Graph{g}
		return out, e
	}
	r := cdr.NewReader(s, f.big, 0)
	out.ID, _ = r.Text()
	out.Done, e = r.Long()
	return out, e
}

func (f far) do(n *Node, q *question, contexts []api.Slot) api.Outcome {
	plan, _ := stub.Compile(q.op, n.known)
	form := form{plan, f.Dynamic, q.op, n.known, f.Big}
	lost := system("limit", api.DoneMaybe) // what can't be carried was asked for its length before
	body, e := form.question(q.args)
	if e != api.OK {
		return lost
	}
	m := api.Message{Kind: api.MRequest, Big: f.Big, Number: 1, Answer: !q.op.Oneway, Key: objectKey(q.object.number), Op: q.op.Name, Contexts: travelling(contexts), Body: body}
	m, e = carried(m, f.Size)
	if e != api.OK {
		return lost
	}
	args, e := form.arguments(m.Body)
	if e != api.OK {
		return lost
	}
	out := n.limited(q, n.run(q, args))
	body, e = form.body(out)
	if e != api.OK {
		return lost
	}
	m, e = carried(api.Message{Kind: api.MReply, Big: f.Big, Number: m.Number, State: out.State, Body: body}, f.Size)
	if e != api.OK {
		return lost
	}
	out, e = form.outcome(m.State, m.Body)
	if e != api.OK {
		return lost
	}
	return out
}

// travelling are the contexts that go with a request; they do not if a message can't have them.
func travelling(l []api.Slot) []api.Context {
	var out []api.Context
	for _, c := range l {
		if len(l) > maxContexts || len(c.Text) > maxContextText {
			return nil
		}
		out = append(out, api.Context{Tag: c.Slot, Text: c.Text})
	}
	return out
}

// carried writes a message in fragments, and reads it.
func carried(m api.Message, size int) (api.Message, api.Errno) {
	l := []api.Message{m}
	var e api.Errno
	if size > 0 {
		if l, e = msg.Cut(m, size); e != api.OK {
			return api.Message{}, e
		}
	}
	bytes := ""
	for _, piece := range l {
		s, e := msg.Encode(piece)
		if e != api.OK {
			return api.Message{}, e
		}
		bytes += s
	}
	l, _, _, e = msg.All(bytes)
	if e != api.OK {
		return api.Message{}, e
	}
	return msg.Join(l)
}
