package call

import (
	"slices"
	"strconv"

	"intermede/api"
	"intermede/body"
	"intermede/hook"
	"intermede/ref"
	"intermede/servant"
	"intermede/stub"
)

// The kinds of outcomes of layer 20.
const (
	aReply = 1 + iota
	anError
	aTurn
)

// question is a call that got past what is asked first.
type question struct {
	object *object
	op     api.Op
	args   []api.Graph
	inner  func(servant.Call) api.Outcome // makes the calls within
}

// refusal is what is panicked with where a call is refused at first.
type refusal string

// Call makes a call.
func (n *Node) Call(target, op string, args []api.Graph, road api.Road) (api.Outcome, api.Errno) {
	if n == nil || !ValidRoad(road) {
		return api.Outcome{}, api.ErrInvalid
	}
	var calls func(target, op string, args []api.Graph, deep int) api.Outcome
	calls = func(target, op string, args []api.Graph, deep int) api.Outcome {
		inner := func(c servant.Call) api.Outcome { return calls(c.Target, c.Op, c.Args, deep+1) }
		return n.followed(target, op, args, deep, road, inner)
	}
	return calls(target, op, args, 0), api.OK
}

// followed makes a call, and goes on where hooks turn it.
func (n *Node) followed(target, op string, args []api.Graph, deep int, road api.Road, inner func(servant.Call) api.Outcome) api.Outcome {
	var out api.Outcome
	oneway, ran, turns := false, false, 0
follow:
	for {
		q, refused := n.first(target, op, args, deep)
		if q == nil {
			out = refused
			if oneway { // it got past this before: nothing is told any more
				break follow
			}
			return refused
		}
		n.calls++
		oneway = oneway || q.op.Oneway
		q.inner = inner
		var turned bool
		out, target, turned = n.hooked(q, road, &ran)
		if !turned {
			break follow
		}
		if turns == maxTurns {
			out = body.System("forwards", doneIf(ran))
			break follow
		}
		turns++
	}
	if oneway {
		return api.Outcome{}
	}
	return out
}

// doneIf tells how far a call was done, of which a method has run or not.
func doneIf(ran bool) int {
	if ran {
		return api.DoneMaybe
	}
	return api.DoneNo
}

// first asks what is asked of a call first.
func (n *Node) first(target, op string, args []api.Graph, deep int) (q *question, out api.Outcome) {
	defer func() {
		if p := recover(); p != nil {
			name, _ := p.(refusal)
			q, out = nil, body.System(string(name), api.DoneNo)
		}
	}()
	must := func(ok bool, name refusal) {
		if !ok {
			panic(name)
		}
	}
	r, e := ref.Parse(target)
	must(e == api.OK && !ref.Nil(r), "reference")
	i := n.withKey(key(r))
	must(i >= 0, "object")
	o := n.objects[i]
	known, there := n.ops[o.class.Interface()][op]
	must(there, "operation")
	must(body.Fit(known, n.known, args), "arguments")
	s, e := stub.WriteQuestion(known, n.known, args, false, 0)
	must(e == api.OK && len(s) <= body.MaxBytes, "limit")
	must(deep <= maxDeep, "deep")
	return &question{object: o, op: known, args: args}, api.Outcome{}
}

// around runs the hooks of both sides around a call with an outcome.
func (n *Node) around(end api.End) (client, server api.Passage) {
	client, server, _ = hook.Whole(n.client, n.server, end)
	return client, server
}

// hooked makes a call between the hooks. What they do around it shows only when its outcome is known, but whether it is made shows before.
func (n *Node) hooked(q *question, road api.Road, ran *bool) (out api.Outcome, target string, turned bool) {
	client, server := n.around(api.End{Kind: aReply})
	if client.Made && server.Made {
		before, _ := hook.Client(n.client, nil, api.End{Kind: aReply})
		out = body.Limited(q.op, n.known, way(road).do(n, q, before.Contexts))
		*ran = true
		end := api.End{Kind: aReply}
		if out.State != api.SResult {
			end = api.End{Kind: anError, Error: 1}
		}
		client, server = n.around(end)
	}
	went := func(s api.Step) bool { return s.Did != 0 }
	if !slices.ContainsFunc(client.Steps, went) && !slices.ContainsFunc(server.Steps, went) {
		return out, "", false
	}
	if client.End.Kind == aTurn {
		return api.Outcome{}, client.End.Target, true
	}
	return body.System("hook "+strconv.Itoa(client.End.Error), doneIf(*ran)), "", false
}

// run runs the method of an object, with the calls that it makes.
func (n *Node) run(q *question, args []api.Graph) api.Outcome {
	r, e := q.object.Begin(q.op.Name, args)
	if e != api.OK {
		return body.System("arguments", api.DoneNo)
	}
	for {
		state, c, out := r.Go(api.MaxSteps)
		if state == servant.Done {
			return out
		}
		if state == servant.Waiting {
			r.Tell(q.inner(c))
		}
	}
}
