package servant

import (
	"reflect"
	"strconv"
	"strings"
	"testing"

	"intermede/api"
	"intermede/data"
	"intermede/repo"
	"intermede/sample"
	"intermede/script"
)

const faces = `
module M {
  enum E { A, B };
  struct S { long n; };
  exception X { string why; long n; };
  exception Y {};
  valuetype V { V next; long n; };
  typedef fixed<6,3> F;
  interface I {
    exception Z { S s; };
    long add(in long a);
    string run(in long a, inout long b, out string c, in string s, in I o) raises (X, Y, Z);
    V link(in V v, in fixed<4,1> f);
    oneway void note(in string<3> s);
    void none();
  };
};
interface J : M::I { void more() raises (Z); };
`

func defs(t *testing.T) []api.Def {
	t.Helper()
	l, line, path, e := repo.Read(faces)
	if e != api.OK {
		t.Fatal(line, path, e)
	}
	return l
}

func graph(t *testing.T, s string) api.Graph {
	t.Helper()
	g, at, e := data.Parse(s)
	if e != api.OK {
		t.Fatalf("%q: %d at %d", s, e, at)
	}
	return g
}

const fields = "field long n; field string log; field M::V head; field M::F price; field octet small; field boolean flag; field M::I other; field string<4> tiny; "

// make makes a servant of a class with a method run.
func made(t *testing.T, run string) *Servant {
	t.Helper()
	text := "class C of M::I { " + fields + "op add { n = n + a; return n; } op link { head = v; price = f; return head; } op note { log = log & s; } op none { } op run { " + run + " } }"
	l, line, e := script.Check(defs(t), text)
	if e != api.OK {
		t.Fatal(text, line, e)
	}
	s, e := New(defs(t), l[0], "self!")
	if e != api.OK {
		t.Fatal(e)
	}
	return s
}

// show writes an outcome.
func show(o api.Outcome) string {
	s := [...]string{"result", "exception " + o.ID, "system " + o.ID + " " + strconv.Itoa(o.Done)}[o.State]
	for _, g := range o.Data {
		s += " | " + data.Format(g)
	}
	return s
}

func args(t *testing.T, l ...string) []api.Graph {
	var out []api.Graph
	for _, s := range l {
		out = append(out, graph(t, s))
	}
	return out
}

func usual(t *testing.T) []api.Graph { return args(t, "5:3", "5:10", `7:"s"`, `16:"o"`) }

func TestAdd(t *testing.T) {
	s := made(t, "return \"\";")
	for i := range 3 {
		r, e := s.Begin("add", args(t, "5:1"))
		if e != api.OK || r.State() != Ready || s.Runs() != 1 || r.Used() != 0 {
			t.Fatal(e)
		}
		if state, _, o := r.Go(1); state != Ready || !reflect.DeepEqual(o, api.Outcome{}) || r.Used() != 1 {
			t.Error(state)
		}
		state, c, o := r.Go(100)
		if state != Done || r.State() != Done || show(o) != "result | 5:"+strconv.Itoa(i+1) || r.Used() != 2 || s.Runs() != 0 || !reflect.DeepEqual(c, Call{}) {
			t.Error(state, show(o), r.Used())
		}
		if state, _, again := r.Go(0); state != Done || !reflect.DeepEqual(o, again) {
			t.Error("again")
		}
	}
	r, _ := s.Begin("none", nil)
	if r.State() != Ready {
		t.Error("begun")
	}
	if state, _, o := r.Go(0); state != Done || show(o) != "result" || r.Used() != 0 {
		t.Error(state, show(o))
	}
}

func TestStatements(t *testing.T) {
	for body, want := range map[string]string{
		"":                                `result | 7: | 5:10 | 7:`,
		"return \"x\" & s;":               `result | 7:"xs" | 5:10 | 7:`,
		"b = b + a * 2 - 1; c = \"out\";": `result | 7: | 5:15 | 7:"out"`,
		"b = 7 / 2 + -7 / 2 + -7 % 2;":    `result | 7: | 5:-1 | 7:`,
		"if a == 3 { b = 1; } else { b = 2; } return \"e\";":                  `result | 7:"e" | 5:1 | 7:`,
		"if a < 3 or a >= 4 { b = 1; } else { b = 2; }":                       `result | 7: | 5:2 | 7:`,
		"while b > 0 { b = b - a; } return \"w\";":                            `result | 7:"w" | 5:-2 | 7:`,
		"if true or 1 / 0 == 1 { b = 1; } if false and 1 / 0 == 1 { b = 2; }": `result | 7: | 5:1 | 7:`,
		"var M::S x; var M::S y; if x == y { b = 5; }":                        `result | 7: | 5:5 | 7:`,
		"if o == nil { b = 1; } if o != self { b = b + 1; }":                  `result | 7: | 5:11 | 7:`,
		"if \"a\" < \"b\" and not (\"b\" <= \"a\") { b = 0; }":                `result | 7: | 5: | 7:`,
		"return \"x\"; b = 1;":                                                `result | 7:"x" | 5:10 | 7:`,
		"raise M::X(\"why\", b + 1);":                                         `exception M/X:1.0 | 15:(7:"why" 5:11)`,
		"raise M::Y();":                                                       "exception M/Y:1.0 | 15:",
		"b = 1 / 0;":                                                          "system zero 1",
		"n = 1; b = 1 % 0;":                                                   "system zero 2",
		"b = 2147483648;":                                                     "system range 1",
		"small = 256;":                                                        "system range 1",
		"small = -1;":                                                         "system range 1",
		"tiny = \"abcde\";":                                                   "system range 1",
		"var huge h; h = 9223372036854775807; h = h + 1;":                     "system range 1",
		"var huge h; h = -9223372036854775807 - 1; h = -h;":                   "system range 1",
		"var huge h; h = -9223372036854775807 - 1; h = h / -1;":               "system range 1",
		"var huge h; h = -9223372036854775807 - 1; h = h % -1; b = h;":        `result | 7: | 5: | 7:`,
		"var huge h; h = 4294967296 * 4294967296;":                            "system range 1",
		"while true { c = c & \"0123456789\"; }":                              "system range 1",
		"while true { }":                                                      "system steps 1",
		"while true { n = n + 1; }":                                           "system steps 2",
		"var M::I q; call q.none();":                                          "system nil 1",
		"try { b = 1 / 0; } catch c { b = 5; }":                               `result | 7: | 5:5 | 7:"zero"`,
		"try { raise M::Y(); } catch c { }":                                   `result | 7: | 5:10 | 7:"M/Y:1.0"`,
		"try { try { b = 1 / 0; } catch c { b = 1 % 0; } b = 4; } catch c { b = b + 1; }": `result | 7: | 5:11 | 7:"zero"`,
		"try { if true { while true { raise M::Y(); } } } catch c { return c; }":          `result | 7:"M/Y:1.0" | 5:10 | 7:"M/Y:1.0"`,
		"try { raise M::Y(); } catch tiny { b = 1; }":                                     "system range 1",
		"try { try { raise M::Y(); } catch tiny { b = 1; } } catch c { b = 2; }":          `result | 7: | 5:2 | 7:"range"`,
		"try { return \"in\"; } catch c { }":                                              `result | 7:"in" | 5:10 | 7:`,
		"try { } catch c { b = 1; }":                                                      `result | 7: | 5:10 | 7:`,
		"try { n = 5; b = 1 / 0; } catch c { } b = 1 / 0;":                                "system zero 2",
		"try { b = 1; } catch log { } b = 1 / 0;":                                         "system zero 1",
		"try { b = 1 / 0; } catch log { } b = 1 / 0;":                                     "system zero 2",
		"try { while true { } } catch c { }":                                              "system steps 1",
	} {
		s := made(t, body)
		r, e := s.Begin("run", usual(t))
		if e != api.OK {
			t.Fatal(e)
		}
		_, _, o := r.Go(10000)
		if show(o) != want || r.Used() > api.MaxSteps || s.Runs() != 0 {
			t.Errorf("%s: %s instead of %s", body, show(o), want)
		}
		for _, piece := range []int{1, 2, 7} {
			p := made(t, body)
			r, _ := p.Begin("run", usual(t))
			for range 10000 {
				if state, _, o := r.Go(piece); state == Done {
					if show(o) != want || !reflect.DeepEqual(p.Fields(), s.Fields()) {
						t.Errorf("%s in pieces of %d: %s", body, piece, show(o))
					}
					break
				}
			}
		}
	}
}

func TestSteps(t *testing.T) {
	for body, want := range map[string]int{
		"": 0, "b = 1;": 1, "if true { b = 1; }": 2, "if false { b = 1; }": 1, "while b > 8 { b = b - 1; }": 5, "try { b = 1; } catch c { }": 2, "try { b = 1 / 0; } catch c { b = 2; }": 3, "return \"\";": 1, "raise M::Y();": 1, "while false { }": 1, "while true { }": 5000, strings.Repeat("b = 1; ", 20): 20,
	} {
		s := made(t, body)
		r, _ := s.Begin("run", usual(t))
		if state, _, _ := r.Go(want); state != Done || r.Used() != want {
			t.Errorf("%s: %d steps, state %d", body, r.Used(), state)
		}
		r, _ = s.Begin("run", usual(t))
		if state, _, _ := r.Go(want - 1); state == Done && want > 0 {
			t.Errorf("%s: done too early", body)
		}
	}
}

func TestCalls(t *testing.T) {
	result := func(l ...string) api.Outcome { return api.Outcome{Data: args(t, l...)} }
	for _, c := range []struct {
		body string
		told []api.Outcome
		call string
		want string
	}{
		{"b = call o.add(a + 1);", []api.Outcome{result("5:42")}, "o add 5:4", `result | 7: | 5:42 | 7:`},
		{"call self.add(1); b = 1;", []api.Outcome{result("5:42")}, "self! add 5:1", `result | 7: | 5:1 | 7:`},
		{"call o.none();", []api.Outcome{result()}, "o none", `result | 7: | 5:10 | 7:`}, {"call o.note(s);", []api.Outcome{result()}, `o note 7:"s"`, `result | 7: | 5:10 | 7:`},
		{"small = call o.add(a);", []api.Outcome{result("5:300")}, "o add 5:3", "system range 2"},
		{"call o.none();", []api.Outcome{result("5:1")}, "o none", "system reply 2"}, {"call o.add(1);", []api.Outcome{result()}, "o add 5:1", "system reply 2"}, {"call o.add(1);", []api.Outcome{result("6:1")}, "o add 5:1", "system reply 2"}, {"call o.add(1);", []api.Outcome{result("5:1", "5:1")}, "o add 5:1", "system reply 2"},
		{"call o.none();", []api.Outcome{{State: api.SSystem, ID: "lost", Done: api.DoneNo}}, "o none", "system lost 2"}, {"call o.none();", []api.Outcome{{State: api.SException, ID: "M/Y:1.0", Data: args(t, "15:")}}, "o none", "exception M/Y:1.0 | 15:"}, {"call o.none();", []api.Outcome{{State: api.SException, ID: "M/Y:1.0"}}, "o none", "system unknown 2"}, {"call o.none();", []api.Outcome{{State: api.SException, ID: "M/X:1.0", Data: args(t, "15:")}}, "o none", "system unknown 2"}, {"call o.none();", []api.Outcome{{State: api.SException, ID: "Q", Data: args(t, "15:")}}, "o none", "system unknown 2"},
		{"try { call o.none(); } catch c { }", []api.Outcome{{State: api.SException, ID: "Q", Data: args(t, "15:")}}, "o none", `result | 7: | 5:10 | 7:"Q"`}, {"try { call o.add(1); } catch c { }", []api.Outcome{result()}, "o add 5:1", `result | 7: | 5:10 | 7:"reply"`},
		{"b = call o.add(1); b = call o.add(b);", []api.Outcome{result("5:2"), result("5:3")}, "o add 5:1", `result | 7: | 5:3 | 7:`},
		{"call o.note(\"abcd\");", nil, "", "system range 1"}, {"var M::I q; call q.note(\"abcd\");", nil, "", "system range 1"},
	} {
		s := made(t, c.body)
		r, _ := s.Begin("run", usual(t))
		state, call, o := r.Go(100)
		if c.call != "" {
			got := call.Target + " " + call.Op
			for _, g := range call.Args {
				got += " " + data.Format(g)
			}
			again, call2, _ := r.Go(5)
			if state != Waiting || got != c.call || r.State() != Waiting || again != Waiting || !reflect.DeepEqual(call, call2) || s.Runs() != 1 {
				t.Errorf("%s: %s, state %d", c.body, got, state)
			}
		}
		for _, told := range c.told {
			if e := r.Tell(api.Outcome{State: api.SForward}); e != api.ErrKind {
				t.Error(e)
			}
			if e := r.Tell(told); e != api.OK {
				t.Error(e)
			}
			if e := r.Tell(told); e != api.ErrState && r.State() != Waiting {
				t.Error(e)
			}
			state, _, o = r.Go(100)
		}
		if state != Done || show(o) != c.want {
			t.Errorf("%s: %s instead of %s", c.body, show(o), c.want)
		}
	}
}

func TestData(t *testing.T) {
	s := made(t, "")
	v := graph(t, "17:1; M/V:1.0 (17:-1 5:9); M/V:1.0 (17:1 5:1)")
	r, e := s.Begin("link", []api.Graph{v, graph(t, `8:"12.5"`)})
	if e != api.OK {
		t.Fatal(e)
	}
	_, _, o := r.Go(10)
	if show(o) != "result | 17:; M/V:1.0 (17: 5:1)" {
		t.Error(show(o))
	}
	o.Data[0].Nodes[0].Kids[1].N = 77
	v.Nodes[1].Kids[1].N = 78
	f := s.Fields()
	if data.Format(f[2]) != "17:; M/V:1.0 (17: 5:1)" || data.Format(f[3]) != `8:"12.500"` {
		t.Error(data.Format(f[2]), data.Format(f[3]))
	}
	if _, _, again := r.Go(0); show(again) != "result | 17:; M/V:1.0 (17: 5:1)" {
		t.Error("shared")
	}
	f[2].Nodes[0].Kids[1].N = 79
	if data.Format(s.Fields()[2]) != "17:; M/V:1.0 (17: 5:1)" {
		t.Error("shared")
	}
	two := made(t, "")
	if e := two.Restore(s.Text()); e != api.OK || !reflect.DeepEqual(two.Fields(), s.Fields()) || two.Text() != s.Text() {
		t.Error(e)
	}
	for _, text := range []string{"", "x", s.Text() + "x", s.Text()[1:], strings.Replace(s.Text(), "12.500", "12.5xx", 1), strings.Repeat("9", 100)} {
		if e := two.Restore(text); e != api.ErrSyntax || !reflect.DeepEqual(two.Fields(), s.Fields()) {
			t.Errorf("%q: %d", text, e)
		}
	}
	if e := s.Set("n", graph(t, "5:4")); e != api.OK || data.Format(s.Fields()[0]) != "5:4" {
		t.Error(e)
	}
	if s.Set("nothing", graph(t, "5:4")) != api.ErrName || s.Set("n", graph(t, "4:4")) != api.ErrKind || s.Set("tiny", graph(t, `7:"abcde"`)) != api.ErrKind {
		t.Error("Set")
	}
}

func TestBegin(t *testing.T) {
	s := made(t, "")
	for i, c := range []struct {
		op   string
		args []api.Graph
		want api.Errno
	}{{"nothing", nil, api.ErrName}, {"add", nil, api.ErrSize}, {"add", args(t, "6:1"), api.ErrKind}, {"add", args(t, "6:1", "5:1"), api.ErrSize}, {"run", args(t, "5:1", "5:1", "7:", "5:"), api.ErrKind}, {"note", args(t, `7:"abcd"`), api.ErrKind}} {
		if r, e := s.Begin(c.op, c.args); e != c.want || r != nil {
			t.Error(i, e)
		}
	}
	if s.Runs() != 0 || s.Class() != "C" {
		t.Error(s.Runs(), s.Class())
	}
	r, _ := s.Begin("add", args(t, "5:1"))
	q, _ := s.Begin("add", args(t, "5:2"))
	if s.Runs() != 2 {
		t.Error(s.Runs())
	}
	r.Go(1)
	r.Cancel()
	if state, _, o := r.Go(5); state != Done || show(o) != "system cancelled 2" || s.Runs() != 1 || r.State() != Done {
		t.Error(show(o))
	}
	r.Cancel()
	if _, _, o := q.Go(9); show(o) != "result | 5:3" || s.Runs() != 0 {
		t.Error(show(o))
	}
	q.Cancel()
	if _, _, o := q.Go(9); show(o) != "result | 5:3" {
		t.Error(show(o))
	}
	var none *Servant
	var run *Run
	run.Cancel()
	state, _, o := run.Go(1)
	if _, e := none.Begin("x", nil); e != api.ErrInvalid || none.Set("x", api.Graph{}) != api.ErrInvalid || none.Restore("") != api.ErrInvalid || none.Text() != "" || none.Runs() != 0 || none.Class() != "" || none.Fields() != nil || run.Tell(api.Outcome{}) != api.ErrInvalid || run.State() != 0 || run.Used() != 0 || state != Done || !reflect.DeepEqual(o, api.Outcome{}) {
		t.Error("nil")
	}
	empty := &Run{}
	empty.Cancel()
	if state, _, o := empty.Go(1); state != Done || !reflect.DeepEqual(o, api.Outcome{}) || empty.Tell(api.Outcome{}) != api.ErrState {
		t.Error("a run that no servant began", state, o)
	}
}

func TestNew(t *testing.T) {
	l, _, _ := script.Check(defs(t), "class C of J { op add { return 1; } op run { return \"\"; } op link { return v; } op note { } op none { } op more { var M::S s; raise J::Z(s); } }")
	if len(l) != 1 {
		t.Fatal("class")
	}
	s, e := New(defs(t), l[0], "")
	if e != api.OK {
		t.Fatal(e)
	}
	r, _ := s.Begin("more", nil)
	if _, _, o := r.Go(1); show(o) != "exception M/I/Z:1.0 | 15:(10:(5:))" {
		t.Error(show(o))
	}
	other, _, _, _ := repo.Read("interface K {};")
	for i, c := range []struct {
		defs []api.Def
		c    *script.Class
		self string
		want api.Errno
	}{{[]api.Def{{}}, l[0], "", api.ErrInvalid}, {defs(t), nil, "", api.ErrInvalid}, {defs(t), &script.Class{}, "", api.ErrInvalid}, {defs(t), l[0], "a\n", api.ErrInvalid}, {defs(t), l[0], strings.Repeat("a", 1001), api.ErrInvalid}, {other, l[0], "", api.ErrInvalid}} {
		if s, e := New(c.defs, c.c, c.self); e != c.want || s != nil {
			t.Error(i, e)
		}
	}
	for i, c := range []struct{ idl, class string }{{"typedef array<long,1000> A; interface I {};", "class C of I { field A a; }"}, {"typedef array<long,1000> A; interface I { void f(); };", "class C of I { op f { var A a; } }"}, {"typedef array<long,1000> A; interface I { A f(in A a); };", "class C of I { op f { return a; } }"}, {strings.Repeat("valuetype V# {};", 1), ""}} {
		if c.class == "" {
			c.idl, c.class = "interface I {};", "class C of I { }"
			for i := range 25 {
				c.idl += "valuetype V" + strconv.Itoa(i) + " {};"
			}
		}
		d, _, path, e := repo.Read(c.idl)
		if e != api.OK {
			t.Fatal(path, e)
		}
		l, _, e := script.Check(d, c.class)
		if e != api.OK {
			t.Fatal(e)
		}
		if s, e := New(d, l[0], ""); e != api.ErrLimit || s != nil {
			t.Error(i, e)
		}
	}
}

func TestValid(t *testing.T) {
	s := sample.New(31)
	words := []string{"b = b + 1;", "n = n * 2 - b;", "c = c & s;", "log = log & \"ab\";", "small = n;", "tiny = tiny & \"x\";", "raise M::Y();", "raise M::X(c, n);", "return c;", "b = a / n;", "call o.none();", "b = call o.add(b);"}
	types := []string{"5", "7", "17", "8", "2", "1", "16", "7"}
	for range 300 {
		body := ""
		for range s.Int(8) {
			w := words[s.Int(len(words))]
			switch s.Int(4) {
			case 0:
				w = "try { " + w + " } catch c { " + words[s.Int(len(words))] + " }"
			case 1:
				w = "while n < 5 { n = n + 1; " + w + " }"
			}
			body += w + " "
		}
		x := made(t, body)
		r, _ := x.Begin("run", usual(t))
		for range 1000 {
			state, c, o := r.Go(1 + s.Int(5))
			if state == Done {
				if o.State == api.SResult && (len(o.Data) != 3 || o.Data[0].Root.Kind != api.TText || o.Data[1].Root.Kind != api.TLong) || o.State == api.SException && len(o.Data) != 1 {
					t.Fatal(show(o))
				}
				break
			}
			if state == Waiting {
				told := api.Outcome{State: s.Int(3), ID: "M/Y:1.0", Data: args(t, "15:")}
				if told.State == api.SResult {
					told.Data = nil
					if c.Op == "add" && s.Int(4) > 0 {
						told.Data = args(t, "5:7")
					}
				}
				r.Tell(told)
			}
		}
		for i, g := range x.Fields() {
			if !strings.HasPrefix(data.Format(g), types[i]+":") {
				t.Fatal(body, data.Format(g))
			}
		}
	}
}
