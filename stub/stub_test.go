package stub_test

import (
	"reflect"
	"strconv"
	"strings"
	"testing"

	"intermede/api"
	"intermede/data"
	"intermede/kind"
	"intermede/sample"
	"intermede/stub"
)

func typ(t *testing.T, s string) api.Type {
	t.Helper()
	x, at, e := kind.Parse(s)
	if e != api.OK {
		t.Fatalf("%q: %d at %d", s, e, at)
	}
	return x
}

func graph(t *testing.T, s string) api.Graph {
	t.Helper()
	g, at, e := data.Parse(s)
	if e != api.OK {
		t.Fatalf("%q: %d at %d", s, e, at)
	}
	return g
}

func params(t *testing.T, l ...string) []api.Param {
	var out []api.Param
	for i, s := range l {
		way := map[byte]int{'<': api.DIn, '>': api.DOut, '=': api.DInout}[s[0]]
		out = append(out, api.Param{Name: "p" + strconv.Itoa(i), Way: way, Type: typ(t, s[1:])})
	}
	return out
}

func TestTypes(t *testing.T) {
	op := api.Op{Name: "f", Result: typ(t, "long"), Params: params(t, "<text", ">long", "=bool")}
	q, e := stub.Question(op)
	a, e2 := stub.Answer(op)
	if kind.Format(q) != "struct question Question{p0 text;p2 bool;}" || kind.Format(a) != "struct answer Answer{void long;p1 long;p2 bool;}" || e != api.OK || e2 != api.OK {
		t.Error(kind.Format(q), kind.Format(a))
	}
	none := api.Op{Name: "_get_x"}
	q, e = stub.Question(none)
	a, e2 = stub.Answer(none)
	if q.Kind != api.TVoid || a.Kind != api.TVoid || e != api.OK || e2 != api.OK {
		t.Error(q, a)
	}
	deep := typ(t, "long")
	for range 15 {
		deep = api.Type{Kind: api.TSeq, Kids: []api.Type{deep}}
	}
	large := api.Op{Name: "f", Result: deep}
	if _, e := stub.Answer(large); e != api.ErrLimit {
		t.Error(e)
	}
	p, e := stub.Compile(large, nil)
	if e != api.OK || p.Steps() == 0 {
		t.Error(e)
	}
	empty := []api.Graph{{Root: api.Data{Kind: api.TSeq}}}
	for i, w := range []func() api.Errno{
		func() api.Errno { _, e := p.WriteAnswer(empty, true, 0); return e }, func() api.Errno { _, e := stub.WriteAnswer(large, nil, empty, true, 0); return e },
		func() api.Errno { _, _, e := p.ReadAnswer("", true, 0); return e }, func() api.Errno { _, _, e := stub.ReadAnswer(large, nil, "", true, 0); return e },
	} {
		if e := w(); e != api.ErrLimit {
			t.Error(i, e)
		}
	}
	if _, e := p.WriteAnswer(nil, true, 0); e != api.ErrSize {
		t.Error(e)
	}
	if s, e := p.WriteQuestion(nil, true, 0); s != "" || e != api.OK {
		t.Error(e)
	}
}

func TestValidOp(t *testing.T) {
	long, x := typ(t, "long"), typ(t, "except x X{}")
	many := func(n, way int) []api.Param {
		var l []api.Param
		for i := range n {
			l = append(l, api.Param{Name: "p" + strconv.Itoa(i), Way: way, Type: long})
		}
		return l
	}
	raises := func(n int) []api.Type {
		var l []api.Type
		for i := range n {
			l = append(l, api.Type{Kind: api.TExcept, ID: "x" + strconv.Itoa(i), Name: "X"})
		}
		return l
	}
	for i, c := range []struct {
		op   api.Op
		want bool
	}{
		{api.Op{Name: "f"}, true}, {api.Op{Name: "_f"}, true}, {api.Op{Name: "__f"}, false}, {api.Op{}, false}, {api.Op{Name: "_"}, false}, {api.Op{Name: "f", Result: x}, false}, {api.Op{Name: "f", Result: api.Type{N: 1}}, false}, {api.Op{Name: "f", Result: api.Type{Kind: 77}}, false}, {api.Op{Name: "f", Params: many(24, api.DInout)}, true}, {api.Op{Name: "f", Params: many(25, api.DIn)}, false}, {api.Op{Name: "f", Result: long, Params: many(24, api.DOut)}, false}, {api.Op{Name: "f", Result: long, Params: many(24, api.DIn)}, true},
		{api.Op{Name: "f", Params: []api.Param{{Name: "void", Way: 1, Type: long}}}, false}, {api.Op{Name: "f", Params: []api.Param{{Name: "a", Way: 0, Type: long}}}, false}, {api.Op{Name: "f", Params: []api.Param{{Name: "a", Way: 4, Type: long}}}, false}, {api.Op{Name: "f", Params: []api.Param{{Name: "a", Way: 1}}}, false}, {api.Op{Name: "f", Params: []api.Param{{Name: "a", Way: 1, Type: x}}}, false}, {api.Op{Name: "f", Params: append(many(1, 1), many(1, 1)...)}, false}, {api.Op{Name: "f", Params: []api.Param{{Name: "1", Way: 1, Type: long}}}, false},
		{api.Op{Name: "f", Raises: raises(24)}, true}, {api.Op{Name: "f", Raises: raises(25)}, false}, {api.Op{Name: "f", Raises: []api.Type{x, x}}, false}, {api.Op{Name: "f", Raises: []api.Type{long}}, false}, {api.Op{Name: "f", Oneway: true, Params: many(3, api.DIn)}, true}, {api.Op{Name: "f", Oneway: true, Result: long}, false}, {api.Op{Name: "f", Oneway: true, Params: many(1, api.DOut)}, false}, {api.Op{Name: "f", Oneway: true, Raises: raises(1)}, false},
	} {
		if stub.ValidOp(c.op) != c.want {
			t.Error(i)
		}
		want := api.Errno(api.ErrInvalid)
		if c.want {
			want = api.OK
		}
		_, e1 := stub.Question(c.op)
		_, e2 := stub.Answer(c.op)
		p, e3 := stub.Compile(c.op, nil)
		if e1 != want || e2 != want || e3 != want || (p != nil) != c.want {
			t.Error(i, e1, e2, e3)
		}
	}
}

func TestErrors(t *testing.T) {
	op := api.Op{Name: "f", Result: typ(t, "bool"), Params: params(t, "<long"), Raises: []api.Type{typ(t, "except x X{a long;}")}}
	p, _ := stub.Compile(op, nil)
	one, bad := []api.Graph{graph(t, "5:1")}, []api.Graph{graph(t, "1:1")}
	for i, c := range []struct {
		op   api.Op
		p    *stub.Plan
		at   int
		args []api.Graph
		want api.Errno
	}{{op, p, 0, one, 0}, {op, p, 8, one, api.ErrInvalid}, {op, p, -1, nil, api.ErrInvalid}, {api.Op{}, nil, 0, one, api.ErrInvalid}, {op, p, 0, nil, api.ErrSize}, {op, p, 0, append(bad, bad...), api.ErrSize}, {op, p, 0, bad, api.ErrInvalid}} {
		_, e := stub.WriteQuestion(c.op, nil, c.args, true, c.at)
		_, e2 := c.p.WriteQuestion(c.args, true, c.at)
		if e != c.want || e2 != c.want {
			t.Error(i, e, e2)
		}
	}
	var none *stub.Plan
	_, e1 := none.WriteAnswer(nil, true, 0)
	_, b2, e2 := none.ReadQuestion("", true, 0)
	_, b3, e3 := none.ReadAnswer("", true, 0)
	_, b4, e4 := stub.ReadAnswer(op, []api.Type{{}}, "", true, 0)
	_, e5 := stub.WriteException(op, nil, "x", graph(t, "15:(5:1)"), true, 8)
	_, _, _, e6 := stub.ReadException(api.Op{}, nil, "", true, 0)
	_, e7 := stub.WriteException(op, nil, "x", graph(t, "15:"), true, 0)
	_, e8 := stub.Compile(op, []api.Type{typ(t, "long")})
	for i, e := range []api.Errno{e1, e2, e3, e4, e5, e6, e7, e8} {
		if e != api.ErrInvalid {
			t.Error(i, e)
		}
	}
	if b2 != 0 || b3 != 0 || b4 != 0 || none.Steps() != 0 {
		t.Error("nil")
	}
	if _, e := stub.WriteException(op, nil, "y", graph(t, "5:"), true, 0); e != api.ErrName {
		t.Error(e)
	}
	for s, want := range map[string]int{"\x00\x00\x00\x05": -1, "": 0, "\x00\x00\x00": 3, "\x00\x00\x00\x05x": 4} {
		l, bad, e := stub.ReadQuestion(op, nil, s, true, 0)
		m, bad2, e2 := p.ReadQuestion(s, true, 0)
		if bad != want || bad2 != want || e != e2 || (e == api.OK) != (want < 0) || want < 0 && (data.Format(l[0]) != "5:5" || !reflect.DeepEqual(l, m)) {
			t.Errorf("%q: %d %d", s, bad, bad2)
		}
	}
	if _, bad, e := stub.ReadQuestion(api.Op{Name: "g"}, nil, "x", true, 3); bad != 3 || e != api.ErrData {
		t.Error(bad, e)
	}
	if l, bad, e := stub.ReadQuestion(api.Op{Name: "g"}, nil, "", true, 3); len(l) != 0 || bad != -1 || e != api.OK {
		t.Error(bad, e)
	}
}

func TestExceptions(t *testing.T) {
	known := []api.Type{typ(t, "value V[v 1]{next ref v;}")}
	op := api.Op{Name: "f", Raises: []api.Type{typ(t, "except x X{}"), typ(t, "except y Y{a octet;v value V[v 1]{next ref v;};}")}}
	s, e := stub.WriteException(op, known, "x", graph(t, "15:"), true, 0)
	if s != "\x00\x00\x00\x02x\x00" || e != api.OK {
		t.Errorf("%q", s)
	}
	if id, g, bad, e := stub.ReadException(op, known, s, true, 0); id != "x" || data.Format(g) != "15:" || bad != -1 || e != api.OK {
		t.Error(id, bad, e)
	}
	for _, big := range []bool{true, false} {
		for at := range 8 {
			s, e := stub.WriteException(op, known, "y", graph(t, "15:(2:7 17:1); v (17:-1); v (17:1)"), big, at)
			if id, g, bad, e2 := stub.ReadException(op, known, s, big, at); e != api.OK || e2 != api.OK || id != "y" || data.Format(g) != "15:(2:7 17:); v (17:)" || bad != -1 {
				t.Error(id, data.Format(g), bad, e, e2)
			}
			if _, _, bad, e := stub.ReadException(op, known, s+"x", big, at); e != api.ErrData || bad != at+len(s) {
				t.Error(bad, e)
			}
		}
	}
	for s, want := range map[string]int{"": 0, "\x00\x00\x00\x02z\x00": 4, "\x00\x00\x00\x02xx": 5, "\x00\x00\x00\x02x\x00\x00": 6, "\x00\x00\x00\x01\x00": 4} {
		at := 0
		if want == 4 {
			at = 4
		}
		if id, _, bad, e := stub.ReadException(op, known, s, true, at); bad != want || e != api.ErrData || id != "" {
			t.Errorf("%q: %d", s, bad)
		}
	}
	text := typ(t, "except z Z{a array<text,70>;}")
	g := api.Graph{Root: api.Data{Kind: api.TExcept, Kids: []api.Data{{Kind: api.TArray}}}}
	for range 70 {
		g.Root.Kids[0].Kids = append(g.Root.Kids[0].Kids, api.Data{Kind: api.TText, S: strings.Repeat("x", 1000)})
	}
	if _, e := stub.WriteException(api.Op{Name: "f", Raises: []api.Type{text}}, nil, "z", g, true, 0); e != api.ErrLimit {
		t.Error(e)
	}
}

func TestLimits(t *testing.T) {
	op := api.Op{Name: "f", Params: params(t, "<seq<octet>", "<seq<octet>")}
	p, _ := stub.Compile(op, nil)
	half := graph(t, "12:("+strings.Repeat("2: ", 498)+"2:)")
	for n, want := range map[int]api.Errno{498: 0, 499: api.ErrLimit} {
		other := graph(t, "12:("+strings.Repeat("2: ", n-1)+"2:)")
		_, e := p.WriteQuestion([]api.Graph{half, other}, true, 0)
		_, e2 := stub.WriteQuestion(op, nil, []api.Graph{half, other}, true, 0)
		if e != want || e2 != want {
			t.Error(n, e, e2)
		}
	}
	s := "\x00\x00\x01\xf4" + strings.Repeat("a", 500) + "\x00\x00\x01\xf4" + strings.Repeat("b", 500)
	_, bad, e := p.ReadQuestion(s, true, 0)
	_, bad2, e2 := stub.ReadQuestion(op, nil, s, true, 0)
	if bad != bad2 || e != api.ErrData || e2 != api.ErrData || bad != 4+500+4+497 {
		t.Error(bad, bad2)
	}
	long := strings.Repeat("x", api.MaxBytes+1)
	_, _, e = p.ReadQuestion(long, true, 0)
	_, _, e2 = stub.ReadQuestion(op, nil, long, true, 0)
	if e != api.ErrLimit || e2 != api.ErrLimit {
		t.Error(e, e2)
	}
}

func operation(s *sample.Source, known []api.Type) api.Op {
	op := api.Op{Name: "f"}
	if s.Int(2) == 0 {
		op.Result = s.Type(known)
	}
	for i := range s.Int(4) {
		op.Params = append(op.Params, api.Param{Name: "p" + strconv.Itoa(i), Way: 1 + s.Int(3), Type: s.Type(known)})
	}
	for range s.Int(2) {
		op.Raises = append(op.Raises, s.Except(known))
	}
	return op
}

func arguments(s *sample.Source, t api.Type, known []api.Type) (args, canonical []api.Graph) {
	for _, kid := range t.Kids {
		g := s.Graph(kid, known)
		c, _ := data.Canonical(g)
		args, canonical = append(args, g), append(canonical, c)
	}
	return args, canonical
}

func same(a, b []api.Graph) bool {
	return len(a) == 0 && len(b) == 0 || reflect.DeepEqual(a, b)
}

func TestRandom(t *testing.T) {
	s := sample.New(21)
	for range 400 {
		known := s.Known()
		op := operation(s, known)
		p, e := stub.Compile(op, known)
		if e != api.OK {
			t.Fatal(e)
		}
		q, _ := stub.Question(op)
		a, _ := stub.Answer(op)
		big, at := s.Int(2) == 0, s.Int(8)
		args, want := arguments(s, q, known)
		b, e := stub.WriteQuestion(op, known, args, big, at)
		b2, e2 := p.WriteQuestion(args, big, at)
		if b != b2 || e != e2 {
			t.Fatal("write", e, e2)
		}
		for i := range op.Params {
			op.Params[i].Name = "z" + strconv.Itoa(i)
		}
		renamed, _ := stub.Compile(op, known)
		if b3, _ := renamed.WriteQuestion(args, big, at); b3 != b {
			t.Fatal("renamed")
		}
		results, wanted := arguments(s, a, known)
		c, e3 := stub.WriteAnswer(op, known, results, big, at)
		c2, e4 := p.WriteAnswer(results, big, at)
		if c != c2 || e3 != e4 {
			t.Fatal("write", e3, e4)
		}
		if l, bad, e := p.ReadQuestion(b, big, at); e2 == api.OK && (e != api.OK || bad != -1 || !same(l, want)) {
			t.Fatal("read", bad, e)
		}
		if l, bad, e := p.ReadAnswer(c, big, at); e4 == api.OK && (e != api.OK || bad != -1 || !same(l, wanted)) {
			t.Fatal("read", bad, e)
		}
		for _, x := range op.Raises {
			exception(t, s, op, x, known, big, at)
		}
		for range 8 {
			both(t, op, known, p, change(s, b), big, at)
		}
		var few []api.Type
		for _, k := range known {
			if s.Int(2) == 0 {
				few = append(few, k)
			}
		}
		fewer, _ := stub.Compile(op, few)
		both(t, op, few, fewer, b, big, at)
		if p.Steps() != renamed.Steps() {
			t.Fatal("steps")
		}
	}
}

func change(s *sample.Source, b string) string {
	if len(b) == 0 {
		return "x"
	}
	l := []byte(b)
	i := s.Int(len(l))
	switch s.Int(3) {
	case 0:
		return b[:i]
	case 1:
		l[i] ^= byte(1 << s.Int(8))
	default:
		l[i] = byte(s.Int(22))
	}
	return string(l)
}

// TestParts reads values whose number of parts is above the bytes that are left: it is wrong at its place.
func TestParts(t *testing.T) {
	v, w := typ(t, "value V[v 0]{}"), typ(t, "value W[v 0,w 1 t]{a octet;}")
	known := []api.Type{v, w}
	op := api.Op{Name: "f", Result: v, Params: []api.Param{{Name: "a", Way: api.DIn, Type: v}}, Raises: []api.Type{typ(t, "except x X{a value V[v 0]{};}")}}
	p, _ := stub.Compile(op, known)
	head := func(id string, parts string) string {
		return "\x00\x00\x00\x01\x00\x00\x00\x01\x00\x00\x00\x02" + id + "\x00\x00\x00\x00\x00\x00" + parts
	}
	for s, want := range map[string]int{
		head("v", "\x01"): 16, head("w", "\x02"): 16, head("w", "\x02\x00"): 16, head("w", "\x02\x00\x00"): 22, head("w", "\x01"): 16, head("v", "\x00"): 16, head("v", "\x01\x00\x00\x00\x00"): -1, head("w", "\x02\x00\x00\x00\x00\x00\x00\x00\x01\x07"): -1,
	} {
		_, bad, e := stub.ReadQuestion(op, known, s, true, 0)
		_, bad2, e2 := p.ReadQuestion(s, true, 0)
		_, bad3, e3 := stub.ReadAnswer(op, known, s, true, 0)
		_, bad4, e4 := p.ReadAnswer(s, true, 0)
		if bad != want || (e == api.ErrData) != (want >= 0) || bad2 != bad || bad3 != bad || bad4 != bad || e2 != e || e3 != e || e4 != e {
			t.Errorf("%q: %d %d %d %d", s, bad, bad2, bad3, bad4)
		}
		if want >= 0 {
			want += 8
		}
		if _, _, bad, e := stub.ReadException(op, known, "\x00\x00\x00\x02x\x00\x00\x00"+s, true, 0); bad != want || (e == api.ErrData) != (want >= 0) {
			t.Errorf("exception: %q: %d", s, bad)
		}
	}
}

// both asks that both roads read the same, or are wrong at the same place.
func both(t *testing.T, op api.Op, known []api.Type, p *stub.Plan, b string, big bool, at int) {
	t.Helper()
	l, bad, e := stub.ReadQuestion(op, known, b, big, at)
	l2, bad2, e2 := p.ReadQuestion(b, big, at)
	if e != e2 || bad != bad2 || !same(l, l2) {
		t.Fatal("two roads", e, e2, bad, bad2)
	}
	l, bad, e = stub.ReadAnswer(op, known, b, big, at)
	l2, bad2, e2 = p.ReadAnswer(b, big, at)
	if e != e2 || bad != bad2 || !same(l, l2) {
		t.Fatal("two roads", e, e2, bad, bad2)
	}
}

func exception(t *testing.T, s *sample.Source, op api.Op, x api.Type, known []api.Type, big bool, at int) {
	g := s.Graph(x, known)
	c, _ := data.Canonical(g)
	b, e := stub.WriteException(op, known, x.ID, g, big, at)
	id, h, bad, e2 := stub.ReadException(op, known, b, big, at)
	if e != api.OK || e2 != api.OK || id != x.ID || bad != -1 || !reflect.DeepEqual(c, h) {
		t.Fatal("exception", e, e2, bad)
	}
	if _, _, bad, e := stub.ReadException(op, known, change(s, b), big, at); e == api.ErrData && (bad < at || bad > at+len(b)) {
		t.Fatal(bad)
	}
}
