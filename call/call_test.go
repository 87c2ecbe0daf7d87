package call

import (
	"reflect"
	"strconv"
	"strings"
	"testing"

	"intermede/api"
	"intermede/data"
	"intermede/ref"
	"intermede/repo"
	"intermede/sample"
)

const faces = `
exception X { string why; long n; };
exception Big { sequence<string> l; };
valuetype V { V next; long n; };
interface I {
  long add(in long a);
  long both(in I o, in long a);
  long sink(in I o);
  string many(in long times);
  void bad(in long k) raises (X, Big);
  V link(in V v, inout any x, out type y);
  oneway void note(in long k);
  oneway void wrong();
  sequence<string> long_answer(in sequence<string> l);
  I me();
};
interface J { void only(); };
`

const classes = `
class C of I {
  field long n; field V head; field sequence<string> kept;
  op add { n = n + a; return n; }
  op both { var long r; r = call o.add(a); r = r + n; return r; }
  op sink { var long r; r = call o.sink(o); return r; }
  op many { var string s; var long i; while i < times { s = s & "0123456789"; i = i + 1; } return s; }
  op bad { if k == 1 { raise X("one", k); } if k == 2 { n = k / 0; } raise Big(kept); }
  op link { head = v; return head; }
  op note { n = n + 0; call self.add(7); }
  op wrong { n = n / 0; }
  op long_answer { kept = l; return kept; }
  op me { return self; }
}
class D of J { op only { } }
`

func graph(t *testing.T, s string) api.Graph {
	t.Helper()
	g, at, e := data.Parse(s)
	if e != api.OK {
		t.Fatalf("%q: %d at %d", s, e, at)
	}
	return g
}

func graphs(t *testing.T, l ...string) []api.Graph {
	t.Helper()
	var out []api.Graph
	for _, s := range l {
		out = append(out, graph(t, s))
	}
	return out
}

func defs(t *testing.T) []api.Def {
	t.Helper()
	l, line, path, e := repo.Read(faces)
	if e != api.OK {
		t.Fatal(line, path, e)
	}
	return l
}

func node(t *testing.T) *Node {
	t.Helper()
	n, e := New(defs(t), classes)
	if e != api.OK {
		t.Fatal(e)
	}
	for range 2 {
		if _, e := n.Make("C"); e != api.OK {
			t.Fatal(e)
		}
	}
	return n
}

func show(o api.Outcome) string {
	s := [...]string{"result", "exception " + o.ID, "system " + o.ID + " " + strconv.Itoa(o.Done)}[o.State]
	for _, g := range o.Data {
		f := data.Format(g)
		if len(f) > 60 {
			f = f[:50] + ".." + strconv.Itoa(len(f))
		}
		s += " | " + f
	}
	return s
}

func quoted(s string) string { return `16:"` + s + `"` }

// both makes a call on all roads, each in a node of its own, and tells what all of them tell.
func both(t *testing.T, prepare func(n *Node), number int, op string, args ...string) string {
	t.Helper()
	var first api.Outcome
	var state string
	for i, road := range Roads() {
		n := node(t)
		if prepare != nil {
			prepare(n)
		}
		target := "nothing"
		if l := n.Objects(); number < len(l) && number >= 0 {
			target = l[number]
		}
		var in []api.Graph
		for _, a := range args {
			a = strings.ReplaceAll(a, "$0", quoted(n.Objects()[0]))
			in = append(in, graph(t, strings.ReplaceAll(a, "$1", quoted(n.Objects()[1]))))
		}
		o, e := n.Call(target, op, in, road)
		if e != api.OK {
			t.Fatal(e)
		}
		now := n.Text() + strconv.Itoa(n.Calls())
		if i == 0 {
			first, state = o, now
		}
		if !SameOutcome(o, first) || now != state {
			t.Errorf("%s, road %v: %s instead of %s", op, road, show(o), show(first))
		}
	}
	return show(first)
}

func TestAdd(t *testing.T) {
	n := node(t)
	target := n.Objects()[0]
	for i, road := range append(Roads(), Roads()...) {
		o, e := n.Call(target, "add", graphs(t, "5:1"), road)
		if show(o) != "result | 5:"+strconv.Itoa(i+1) || e != api.OK || n.Calls() != i+1 {
			t.Error(show(o), e)
		}
	}
}

func TestOutcomes(t *testing.T) {
	long := "12:(" + strings.Repeat(`7:"`+strings.Repeat("x", 1000)+`" `, 15) + `7:"` + strings.Repeat("x", 800) + `")`
	tooLong := "12:(" + strings.Repeat(`7:"`+strings.Repeat("x", 1000)+`" `, 15) + `7:"` + strings.Repeat("x", 1000) + `")`
	for i, c := range []struct {
		number int
		op     string
		args   []string
		want   string
	}{
		{0, "add", []string{"5:2"}, "result | 5:2"}, {0, "both", []string{"$1", "5:4"}, "result | 5:4"}, {0, "both", []string{"$0", "5:4"}, "result | 5:8"}, {0, "many", []string{"5:3"}, `result | 7:"012345678901234567890123456789"`}, {0, "many", []string{"5:101"}, "system range 1"}, {0, "bad", []string{"5:1"}, `exception X:1.0 | 15:(7:"one" 5:1)`}, {0, "bad", []string{"5:2"}, "system zero 1"}, {0, "bad", []string{"5:3"}, "exception Big:1.0 | 15:(12:)"},
		{0, "link", []string{"17:1; V:1.0 (17: 5:1); V:1.0 (17:1 5:2)", "18:(5:9)[long]"}, "result | 17:; V:1.0 (17: 5:2) | 18:(5:9)[long] | 19:[void]"}, {0, "sink", []string{"$1"}, "system deep 2"}, {1, "me", nil, ""}, {0, "note", []string{"5:1"}, "result"}, {0, "wrong", nil, "result"},
		{0, "long_answer", []string{long}, ""}, {0, "long_answer", []string{tooLong}, "system limit 1"}, {9, "add", []string{"5:1"}, "system reference 1"}, {0, "nothing", nil, "system operation 1"}, {0, "add", nil, "system arguments 1"}, {0, "add", []string{"6:1"}, "system arguments 1"}, {0, "add", []string{"5:1", "5:1"}, "system arguments 1"}, {0, "both", []string{"16:", "5:1"}, "system nil 1"}, {0, "both", []string{quoted("x"), "5:1"}, "system reference 2"},
	} {
		got := both(t, nil, c.number, c.op, c.args...)
		if c.want != "" && got != c.want || c.want == "" && !strings.HasPrefix(got, "result | ") {
			t.Errorf("%d %s: %s instead of %s", i, c.op, got, c.want)
		}
	}
}

func TestReferences(t *testing.T) {
	n := node(t)
	x := n.Objects()[0]
	r, e := ref.Parse(x)
	if e != api.OK || r.ID != "I:1.0" || len(r.Profiles) != 1 || !reflect.DeepEqual(r.Profiles[0], api.Profile{Host: "near", Port: 1, Key: "o1"}) {
		t.Error(r, e)
	}
	r.ID = "Q:1.0"
	r.Profiles = append([]api.Profile{{Host: "far", Port: 1, Key: "o2"}, {Host: "near", Port: 2, Key: "o2"}}, append(r.Profiles, api.Profile{Host: "near", Port: 1, Key: "o2"})...)
	if o, _ := n.Call(ref.Format(r), "me", nil, api.Road{}); len(o.Data) != 1 || o.Data[0].Root.S != x {
		t.Error(show(o))
	}
	gone := ref.Format(api.Ref{ID: "I:1.0", Profiles: []api.Profile{{Host: "near", Port: 1, Key: "o9"}}})
	elsewhere := ref.Format(api.Ref{ID: "I:1.0", Profiles: []api.Profile{{Host: "h", Port: 1, Key: "o1"}}})
	for target, want := range map[string]string{"": "system reference 1", "x": "system reference 1", ref.Format(api.Ref{}): "system reference 1", gone: "system object 1", elsewhere: "system object 1"} {
		if o, _ := n.Call(target, "nothing", nil, api.Road{}); show(o) != want {
			t.Error(show(o))
		}
		if n.Locate(target) != api.SUnknown {
			t.Error("Locate")
		}
		_, e1 := n.Class(target)
		_, e2 := n.Fields(target)
		if e1 != api.ErrNone || e2 != api.ErrNone || n.Set(target, "n", graph(t, "5:")) != api.ErrNone || n.Remove(target) != api.ErrNone {
			t.Error(e1, e2)
		}
	}
	if n.Calls() != 1 {
		t.Error(n.Calls())
	}
	if n.Locate(x) != api.SHere {
		t.Error("Locate")
	}
	if s, e := n.Class(x); s != "C" || e != api.OK {
		t.Error(s, e)
	}
	if n.Set(x, "n", graph(t, "5:40")) != api.OK || n.Set(x, "q", graph(t, "5:40")) != api.ErrName || n.Set(x, "n", graph(t, "4:40")) != api.ErrKind {
		t.Error("Set")
	}
	if f, e := n.Fields(x); e != api.OK || data.Format(f[0]) != "5:40" {
		t.Error(e)
	}
	if n.Remove(x) != api.OK || n.Locate(x) != api.SUnknown || len(n.Objects()) != 1 {
		t.Error("Remove")
	}
	if y, e := n.Make("D"); e != api.OK || y == x {
		t.Error(e)
	} else if r, _ := ref.Parse(y); r.Profiles[0].Key != "o3" || r.ID != "J:1.0" {
		t.Error(r)
	}
	if _, e := n.Make("E"); e != api.ErrName {
		t.Error(e)
	}
	for len(n.Objects()) < 100 {
		n.Make("D")
	}
	if _, e := n.Make("D"); e != api.ErrLimit {
		t.Error(e)
	}
}

func made(name string, change func(*api.Hook)) api.Hook {
	h := api.Hook{Name: name, Error: 7}
	if change != nil {
		change(&h)
	}
	return h
}

func TestHooks(t *testing.T) {
	fails := func(points ...int) []api.Hook {
		return []api.Hook{made("f", func(h *api.Hook) { h.Fails = points })}
	}
	for i, c := range []struct {
		client, server []api.Hook
		op             string
		want           string
	}{
		{[]api.Hook{made("a", func(h *api.Hook) { h.Adds = []api.Add{{Point: 1, Slot: 3, Text: strings.Repeat("x", 2000)}} })}, []api.Hook{made("b", nil)}, "add", "result | 5:1"}, {fails(1), nil, "add", "system hook 7 1"}, {nil, fails(5), "add", "system hook 7 1"}, {nil, fails(6), "add", "system hook 7 1"}, {nil, fails(7), "add", "system hook 7 2"}, {fails(2), nil, "add", "system hook 7 2"}, {fails(3), nil, "add", "result | 5:1"}, {fails(3), nil, "bad", "system hook 7 2"}, {nil, fails(8), "bad", "system hook 7 2"}, {nil, fails(7), "bad", `exception X:1.0 | 15:(7:"one" 5:1)`}, {fails(1), nil, "wrong", "result"}, {[]api.Hook{made("a", nil), made("b", func(h *api.Hook) { h.Adds = []api.Add{{Point: 1, Slot: 3}, {Point: 1, Slot: 3}} })}, nil, "add", "system hook 101 1"},
	} {
		args := []string{"5:1"}
		if c.op == "wrong" {
			args = nil
		}
		got := both(t, func(n *Node) {
			if e := n.Hooks(c.client, c.server); e != api.OK {
				t.Fatal(e)
			}
		}, 0, c.op, args...)
		if got != c.want {
			t.Errorf("%d: %s instead of %s", i, got, c.want)
		}
	}
}

func TestTurns(t *testing.T) {
	turn := func(target string, points ...int) func(*Node) {
		return func(n *Node) {
			s := strings.ReplaceAll(target, "$1", n.Objects()[1])
			s = strings.ReplaceAll(s, "$0", n.Objects()[0])
			h := []api.Hook{made("t", func(h *api.Hook) { h.Turns, h.Target = points, s })}
			if points[0] >= 5 {
				n.Hooks(nil, h)
			} else {
				n.Hooks(h, nil)
			}
		}
	}
	for i, c := range []struct {
		prepare func(*Node)
		op, arg string
		want    string
	}{{turn("x", 1), "add", "5:1", "system reference 1"}, {turn("$1", 1), "add", "5:1", "system forwards 1"}, {turn("$1", 8), "bad", "5:1", "system forwards 2"}, {turn("$1", 3), "bad", "5:1", "system forwards 2"}, {turn("x", 8), "bad", "5:1", "system reference 1"}, {turn("$1", 8), "add", "5:1", "result | 5:1"}, {turn("x", 1), "note", "5:1", "result"}} {
		if got := both(t, c.prepare, 0, c.op, c.arg); got != c.want {
			t.Errorf("%d: %s instead of %s", i, got, c.want)
		}
	}
	n := node(t)
	bad := []api.Hook{made("a", nil), made("a", nil)}
	if n.Hooks(bad, nil) != api.ErrDuplicate || n.Hooks(nil, bad) != api.ErrDuplicate || n.Hooks([]api.Hook{{}}, nil) != api.ErrInvalid {
		t.Error("Hooks")
	}
}

func TestRoads(t *testing.T) {
	for i, c := range []struct {
		r    api.Road
		want bool
	}{{api.Road{}, true}, {api.Road{Big: true}, false}, {api.Road{Dynamic: true}, false}, {api.Road{Size: 8}, false}, {api.Road{Far: true}, true}, {api.Road{Far: true, Size: 4}, false}, {api.Road{Far: true, Size: 12}, false}, {api.Road{Far: true, Size: -8}, false}, {api.Road{Far: true, Size: 65536}, true}, {api.Road{Far: true, Size: 65544}, false}} {
		if ValidRoad(c.r) != c.want {
			t.Error(i)
		}
		if _, e := node(t).Call("", "", nil, c.r); (e == api.OK) != c.want || !c.want && e != api.ErrInvalid {
			t.Error(i, e)
		}
	}
	for _, r := range Roads() {
		if !ValidRoad(r) {
			t.Error(r)
		}
	}
}

func TestRestore(t *testing.T) {
	n := node(t)
	n.Call(n.Objects()[1], "add", graphs(t, "5:3"), api.Road{})
	n.Call(n.Objects()[1], "link", graphs(t, "17:; V:1.0 (17: 5:2)", "18:"), api.Road{})
	n.Remove(n.Objects()[0])
	n.Make("D")
	m := node(t)
	if e := m.Restore(n.Text()); e != api.OK || m.Text() != n.Text() || !reflect.DeepEqual(m.Objects(), n.Objects()) {
		t.Error(e)
	}
	for range 3 {
		a, _ := n.Call(n.Objects()[0], "add", graphs(t, "5:3"), api.Road{})
		b, _ := m.Call(m.Objects()[0], "add", graphs(t, "5:3"), Roads()[5])
		if !SameOutcome(a, b) {
			t.Error(show(a), show(b))
		}
	}
	x, _ := n.Make("C")
	y, _ := m.Make("C")
	if x != y {
		t.Error("numbers")
	}
	before := m.Text()
	for _, s := range []string{"", "x", "1", before + "x", before[:len(before)-1], strings.Replace(before, "1 C", "1 Q", 1), "0 1 1 D0 ", "-1 "} {
		if s == before {
			continue
		}
		if e := m.Restore(s); e != api.ErrSyntax || m.Text() != before {
			t.Errorf("%q: %d", s, e)
		}
	}
}

func TestNew(t *testing.T) {
	d := defs(t)
	for i, c := range []struct {
		defs []api.Def
		text string
		want api.Errno
	}{{[]api.Def{{}}, "x", api.ErrInvalid}, {d, strings.Repeat(" ", 65537), api.ErrLong}, {d, "x", api.ErrSyntax}, {d, "class A of Q { }", api.ErrName}, {d, "class A of V { }", api.ErrKind}, {d, "class D of J { op only { } } class D of J { op only { } }", api.ErrDuplicate}, {d, "class D of J { op only { " + strings.Repeat("return;", 201) + " } }", api.ErrLimit}, {d, "", 0}} {
		if n, e := New(c.defs, c.text); e != c.want || (n == nil) != (e != api.OK) {
			t.Error(i, e)
		}
	}
	var n *Node
	_, e1 := n.Make("C")
	_, e2 := n.Call("", "", nil, api.Road{})
	_, e3 := n.Class("")
	_, e4 := n.Fields("")
	for i, e := range []api.Errno{e1, e2, e3, e4, n.Remove(""), n.Hooks(nil, nil), n.Set("", "", api.Graph{}), n.Restore("")} {
		if e != api.ErrInvalid {
			t.Error(i, e)
		}
	}
	if n.Locate("") != 0 || n.Objects() != nil || n.Calls() != 0 || n.Text() != "" {
		t.Error("nil")
	}
}

func TestApart(t *testing.T) {
	n := node(t)
	v := graphs(t, "17:; V:1.0 (17: 5:2)", "18:(5:1)[long]")
	o, _ := n.Call(n.Objects()[0], "link", v, api.Road{})
	v[0].Nodes[0].Kids[1].N = 99
	o.Data[0].Nodes[0].Kids[1].N = 98
	f, _ := n.Fields(n.Objects()[0])
	if data.Format(f[1]) != "17:; V:1.0 (17: 5:2)" {
		t.Error(data.Format(f[1]))
	}
}

func TestRandom(t *testing.T) {
	s := sample.New(131)
	nodes := []*Node{node(t), node(t), node(t)}
	roads := Roads()
	ops := []string{"add", "both", "many", "bad", "link", "note", "wrong", "me", "sink"}
	for range 150 {
		op := ops[s.Int(len(ops))]
		target, other := s.Int(3), s.Int(2)
		var first api.Outcome
		for i, n := range nodes {
			to := ""
			if target < 2 {
				to = n.Objects()[target]
			}
			o := quoted(n.Objects()[other])
			args := map[string][]api.Graph{"add": graphs(t, "5:3"), "both": graphs(t, o, "5:2"), "many": graphs(t, "5:2"), "bad": graphs(t, "5:"+strconv.Itoa(1+other)), "link": graphs(t, "17:; V:1.0 (17: 5:2)", "18:"), "note": graphs(t, "5:1"), "sink": graphs(t, o)}[op]
			road := api.Road{}
			if i > 0 {
				road = roads[s.Int(len(roads))]
			}
			x, _ := n.Call(to, op, args, road)
			if i == 0 {
				first = x
			}
			if !SameOutcome(x, first) || n.Text() != nodes[0].Text() && i == 0 {
				t.Fatal(op, road, show(x), show(first))
			}
		}
		if nodes[0].Text() != nodes[1].Text() || nodes[0].Calls() != nodes[2].Calls() {
			t.Fatal("fields", op)
		}
	}
}
