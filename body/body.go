// Package body writes and reads what calls ask and tell, as the bodies of messages, for the layers that make calls.
package body

import (
	"intermede/api"
	"intermede/cdr"
	"intermede/data"
	"intermede/stub"
)

// MaxBytes is how many bytes a question or an answer has at most.
const MaxBytes = 16000

// Form is how an operation's arguments and outcomes are written: by a plan or dynamically, in an order.
type Form struct {
	*stub.Plan
	Dynamic, Big bool
	Op           api.Op
	Known        []api.Type
}

// Question writes arguments.
func (f Form) Question(args []api.Graph) (string, api.Errno) {
	if f.Dynamic {
		return stub.WriteQuestion(f.Op, f.Known, args, f.Big, 0)
	}
	return f.WriteQuestion(args, f.Big, 0)
}

// Arguments reads what Question wrote.
func (f Form) Arguments(s string) ([]api.Graph, api.Errno) {
	if f.Dynamic {
		args, _, e := stub.ReadQuestion(f.Op, f.Known, s, f.Big, 0)
		return args, e
	}
	args, _, e := f.ReadQuestion(s, f.Big, 0)
	return args, e
}

func (f Form) answer(l []api.Graph) (string, api.Errno) {
	if f.Dynamic {
		return stub.WriteAnswer(f.Op, f.Known, l, f.Big, 0)
	}
	return f.WriteAnswer(l, f.Big, 0)
}

func (f Form) results(s string) ([]api.Graph, api.Errno) {
	if f.Dynamic {
		l, _, e := stub.ReadAnswer(f.Op, f.Known, s, f.Big, 0)
		return l, e
	}
	l, _, e := f.ReadAnswer(s, f.Big, 0)
	return l, e
}

// Outcome writes an outcome: its answer, its exception, its reference, or its name and how far it was done.
func (f Form) Outcome(out api.Outcome) (string, api.Errno) {
	switch out.State {
	case api.SResult:
		return f.answer(out.Data)
	case api.SException:
		return stub.WriteException(f.Op, f.Known, out.ID, out.Data[0], f.Big, 0)
	case api.SForward:
		return out.Ref, api.OK
	}
	w := cdr.NewWriter(f.Big, 0)
	if e := w.Text(out.ID); e != api.OK {
		return "", e
	}
	e := w.Long(out.Done)
	return w.All(), e
}

// Read reads what Outcome wrote.
func (f Form) Read(state int, s string) (out api.Outcome, e api.Errno) {
	out.State = state
	switch state {
	case api.SResult:
		out.Data, e = f.results(s)
		return out, e
	case api.SException:
		id, g, _, e := stub.ReadException(f.Op, f.Known, s, f.Big, 0)
		out.ID, out.Data = id, []api.Graph{g}
		return out, e
	case api.SForward:
		out.Ref = s
		return out, api.OK
	}
	r := cdr.NewReader(s, f.Big, 0)
	out.ID, _ = r.Text()
	out.Done, e = r.Long()
	return out, e
}

// System returns a system error.
func System(name string, done int) api.Outcome {
	return api.Outcome{State: api.SSystem, ID: name, Done: done}
}

// Fit reports whether arguments are those of an operation.
func Fit(op api.Op, known []api.Type, args []api.Graph) bool {
	for _, p := range op.Params {
		if p.Way == api.DOut {
			continue
		}
		if len(args) == 0 || !data.Valid(p.Type, known, args[0]) {
			return false
		}
		args = args[1:]
	}
	return len(args) == 0
}

// Limited is an outcome, or a system error where its answer is too long.
func Limited(op api.Op, known []api.Type, out api.Outcome) api.Outcome {
	var s string
	var e api.Errno
	switch out.State {
	case api.SResult:
		s, e = stub.WriteAnswer(op, known, out.Data, false, 0)
	case api.SException:
		s, e = stub.WriteException(op, known, out.ID, out.Data[0], false, 0)
	}
	if e != api.OK || len(s) > MaxBytes {
		return System("limit", api.DoneMaybe)
	}
	return out
}
