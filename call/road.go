package call

import (
	"intermede/api"
	"intermede/body"
	"intermede/msg"
	"intermede/stub"
)

// The contexts that a message can have.
const (
	maxContexts    = 16
	maxContextText = 1000
)

// ValidRoad reports whether a road is valid.
func ValidRoad(r api.Road) bool {
	if !r.Far {
		return r == api.Road{}
	}
	return r.Size == 0 || r.Size >= 8 && r.Size <= 65536 && r.Size%8 == 0
}

// Roads returns some roads.
func Roads() []api.Road {
	l := []api.Road{{}}
	for _, big := range []bool{false, true} {
		for _, dynamic := range []bool{false, true} {
			for _, size := range []int{0, 8, 64, 65536} {
				l = append(l, api.Road{Far: true, Big: big, Dynamic: dynamic, Size: size})
			}
		}
	}
	return l
}

// goes is how a call goes from the hooks to the method and back.
type goes interface {
	do(n *Node, q *question, contexts []api.Slot) api.Outcome
}

// near hands over what is asked and told as it is.
type near struct{}

// far writes it as bytes, and reads it.
type far struct{ api.Road }

func way(r api.Road) goes {
	if r.Far {
		return far{r}
	}
	return near{}
}

func (near) do(n *Node, q *question, contexts []api.Slot) api.Outcome {
	return n.run(q, q.args)
}

func (f far) do(n *Node, q *question, contexts []api.Slot) api.Outcome {
	plan, _ := stub.Compile(q.op, n.known)
	form := body.Form{Plan: plan, Dynamic: f.Dynamic, Big: f.Big, Op: q.op, Known: n.known}
	lost := body.System("limit", api.DoneMaybe) // what can't be carried was asked for its length before
	bytes, e := form.Question(q.args)
	if e != api.OK {
		return lost
	}
	m := api.Message{Kind: api.MRequest, Big: f.Big, Number: 1, Answer: !q.op.Oneway, Key: objectKey(q.object.number), Op: q.op.Name, Contexts: travelling(contexts), Body: bytes}
	m, e = carried(m, f.Size)
	if e != api.OK {
		return lost
	}
	args, e := form.Arguments(m.Body)
	if e != api.OK {
		return lost
	}
	out := body.Limited(q.op, n.known, n.run(q, args))
	bytes, e = form.Outcome(out)
	if e != api.OK {
		return lost
	}
	m, e = carried(api.Message{Kind: api.MReply, Big: f.Big, Number: m.Number, State: out.State, Body: bytes}, f.Size)
	if e != api.OK {
		return lost
	}
	out, e = form.Read(m.State, m.Body)
	if e != api.OK {
		return lost
	}
	return out
}

// travelling are the contexts that go with a request; they do not if a message can't have them.
func travelling(l []api.Slot) []api.Context {
	var out []api.Context
	for _, c := range l {
		if len(l) > maxContexts || len(c.Text) > maxContextText {
			return nil
		}
		out = append(out, api.Context{Tag: c.Slot, Text: c.Text})
	}
	return out
}

// carried writes a message in fragments, and reads it.
func carried(m api.Message, size int) (api.Message, api.Errno) {
	l := []api.Message{m}
	var e api.Errno
	if size > 0 {
		if l, e = msg.Cut(m, size); e != api.OK {
			return api.Message{}, e
		}
	}
	bytes := ""
	for _, piece := range l {
		s, e := msg.Encode(piece)
		if e != api.OK {
			return api.Message{}, e
		}
		bytes += s
	}
	l, _, _, e = msg.All(bytes)
	if e != api.OK {
		return api.Message{}, e
	}
	return msg.Join(l)
}
