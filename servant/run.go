package servant

import (
	"slices"

	"intermede/api"
	"intermede/data"
	"intermede/tree"
)

// The states of runs.
const (
	Ready   = 0
	Waiting = 1
	Done    = 2
)

// Call is a call that a run makes.
type Call struct {
	Target string
	Op     string
	Args   []api.Graph
}

// variable is a variable of a run.
type variable struct {
	t api.Type
	g api.Graph
}

// frame is statements that are to be done; try is the statement whose part they are.
type frame struct {
	list []tree.Stmt
	at   int
	try  *tree.Try
}

// Run is a method that was begun.
type Run struct {
	*object
	method  *method
	vars    map[string]*variable
	result  api.Graph
	frames  []frame
	state   int
	used    int
	touched bool // it has called, or has assigned to a field
	call    Call
	waits   *tree.Call
	outcome api.Outcome
}

// get returns the value of a variable or a field.
func (r *Run) get(name string) value {
	if v := r.vars[name]; v != nil {
		return of(v.t, v.g)
	}
	i := r.field(name)
	return of(r.fields[i].Type, r.values[i])
}

// set gives a variable or a field a value.
func (r *Run) set(name string, v value) {
	if x := r.vars[name]; x != nil {
		x.g = v.to(x.t)
		return
	}
	i := r.field(name)
	r.values[i] = v.to(r.fields[i].Type)
	r.touched = true
}

// isNone reports whether a run is nil, or one that no servant began.
func (r *Run) isNone() bool { return r == nil || r.object == nil }

// State returns the state.
func (r *Run) State() int {
	if r == nil {
		return Ready
	}
	return r.state
}

// Used returns the number of steps that were taken.
func (r *Run) Used() int {
	if r == nil {
		return 0
	}
	return r.used
}

// finish ends a run with an outcome.
func (r *Run) finish(o api.Outcome) {
	r.state, r.outcome, r.frames = Done, o, nil
	r.runs--
}

// system is a system error that ends a run.
func (r *Run) system(name string) api.Outcome {
	o := api.Outcome{State: api.SSystem, ID: name, Done: api.DoneNo}
	if r.touched {
		o.Done = api.DoneMaybe
	}
	return o
}

// Cancel ends a run.
func (r *Run) Cancel() {
	if !r.isNone() && r.state != Done {
		r.finish(api.Outcome{State: api.SSystem, ID: "cancelled", Done: api.DoneMaybe})
	}
}

// answer is the outcome of a run that returns.
func (r *Run) answer() api.Outcome {
	var o api.Outcome
	if r.method.op.Result.Kind != api.TVoid {
		o.Data = append(o.Data, r.result)
	}
	for _, p := range r.method.op.Params {
		if p.Way != api.DIn {
			o.Data = append(o.Data, r.vars[p.Name].g)
		}
	}
	return o
}

// settle leaves lists whose statements are done; a run is done where none is left, or where no more step may be taken.
func (r *Run) settle() {
	if r.state != Ready {
		return
	}
	n := len(r.frames)
	for n > 0 && r.frames[n-1].at == len(r.frames[n-1].list) {
		n--
	}
	r.frames = r.frames[:n]
	if n == 0 {
		r.finish(r.answer())
	} else if r.used >= api.MaxSteps {
		r.finish(r.system("steps"))
	}
}

// Go lets a run go on for at most so many steps.
func (r *Run) Go(steps int) (state int, c Call, o api.Outcome) {
	if r.isNone() {
		return Done, Call{}, api.Outcome{}
	}
	take := func() bool {
		if steps <= 0 {
			return false
		}
		steps--
		r.used++
		return true
	}
	r.settle()
	for r.state == Ready && take() {
		r.protected(r.step)
		r.settle()
	}
	switch r.state {
	case Waiting:
		c = Call{r.call.Target, r.call.Op, cloneAll(r.call.Args)}
	case Done:
		o = r.outcome
		o.Data = cloneAll(o.Data)
	}
	return r.state, c, o
}

// protected does something; what goes wrong in it is told to the try around, or ends the run.
func (r *Run) protected(do func()) {
	defer func() {
		if p := recover(); p != nil {
			f, ok := p.(failure)
			if !ok {
				f = failure{id: "range"}
			}
			r.failed(f)
		}
	}()
	do()
}

// failed leaves lists up to a try. An error while its variable is assigned belongs to the next one.
func (r *Run) failed(f failure) {
	for n := len(r.frames); n > 0; n = len(r.frames) {
		try := r.frames[n-1].try
		r.frames = r.frames[:n-1]
		if try == nil {
			continue
		}
		ok := r.told(try.Name, f.id)
		if ok {
			r.frames = append(r.frames, frame{list: try.Catch})
			return
		}
		f = failure{id: "range"}
	}
	r.finish(r.ended(f))
}

// told assigns the text of an error to a variable, if it has room for it.
func (r *Run) told(name, id string) (ok bool) {
	defer func() {
		if p := recover(); p != nil {
			ok = false
		}
	}()
	r.set(name, value{s: id, t: api.Type{Kind: api.TText}})
	return true
}

// ended is the outcome of a run that an error ends: exceptions must be those of the operation.
func (r *Run) ended(f failure) api.Outcome {
	if !f.exception {
		return r.system(f.id)
	}
	i := slices.IndexFunc(r.method.op.Raises, func(t api.Type) bool { return t.ID == f.id })
	if i < 0 || len(f.data) != 1 || !data.Valid(r.method.op.Raises[i], r.known, f.data[0]) {
		return r.system("unknown")
	}
	return api.Outcome{State: api.SException, ID: f.id, Data: cloneAll(f.data)}
}

// step does the next statement.
func (r *Run) step() {
	top := &r.frames[len(r.frames)-1]
	s := top.list[top.at]
	if loop, ok := s.(*tree.While); ok {
		if r.eval(loop.Cond).n == 1 {
			r.frames = append(r.frames, frame{list: loop.Body})
			return
		}
	}
	top.at++
	switch x := s.(type) {
	case *tree.Assign:
		r.set(x.Name, r.eval(x.Value))
	case *tree.Return:
		if x.Value != nil {
			r.result = r.eval(x.Value).to(r.method.op.Result)
		}
		r.finish(r.answer())
	case *tree.Raise:
		r.raise(x)
	case *tree.Call:
		r.ask(x)
	case *tree.If:
		list := x.Else
		if r.eval(x.Cond).n == 1 {
			list = x.Then
		}
		r.frames = append(r.frames, frame{list: list})
	case *tree.Try:
		r.frames = append(r.frames, frame{list: x.Body, try: x})
	}
}

// raise raises an exception of the operation.
func (r *Run) raise(x *tree.Raise) {
	id := r.raised[x.Path]
	i := slices.IndexFunc(r.method.op.Raises, func(t api.Type) bool { return t.ID == id })
	t := r.method.op.Raises[i]
	var l []api.Graph
	for j, arg := range x.Args {
		l = append(l, r.eval(arg).to(t.Kids[j]))
	}
	g, e := data.Split(t.Kids, r.known, l)
	if e != api.OK {
		fail("range")
	}
	g.Root.Kind = api.TExcept
	panic(failure{id, true, []api.Graph{g}})
}

// ask makes a call.
func (r *Run) ask(x *tree.Call) {
	op := r.ops[r.called(r.method, x)][x.Op]
	c := Call{Target: r.eval(x.Target).s, Op: x.Op}
	for i, arg := range x.Args {
		c.Args = append(c.Args, r.eval(arg).to(op.Params[i].Type))
	}
	if c.Target == "" {
		fail("nil")
	}
	r.call, r.waits, r.state, r.touched = c, x, Waiting, true
}

// Tell tells the outcome of the call for which a run waits.
func (r *Run) Tell(o api.Outcome) api.Errno {
	switch {
	case r == nil:
		return api.ErrInvalid
	case r.state != Waiting:
		return api.ErrState
	case o.State != api.SResult && o.State != api.SException && o.State != api.SSystem:
		return api.ErrKind
	}
	x := r.waits
	r.state, r.call, r.waits = Ready, Call{}, nil
	r.protected(func() {
		if o.State != api.SResult {
			panic(failure{o.ID, o.State == api.SException, cloneAny(o.Data)})
		}
		r.take(x, o.Data)
	})
	r.settle()
	return api.OK
}

// cloneAny copies graphs that may not be valid: these are left out, and no exception has them.
func cloneAny(l []api.Graph) []api.Graph {
	var out []api.Graph
	for _, g := range l {
		if c, e := data.Canonical(g); e == api.OK {
			out = append(out, c)
		}
	}
	return out
}

// take takes the result of a call.
func (r *Run) take(x *tree.Call, l []api.Graph) {
	op := r.ops[r.called(r.method, x)][x.Op]
	if op.Result.Kind == api.TVoid {
		if len(l) > 0 {
			fail("reply")
		}
		return
	}
	if len(l) != 1 || !data.Valid(op.Result, r.known, l[0]) {
		fail("reply")
	}
	if x.Name != "" {
		r.set(x.Name, of(op.Result, clone(l[0])))
	}
}
