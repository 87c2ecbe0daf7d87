package naming

import (
	"fmt"
	"reflect"
	"slices"
	"strconv"
	"strings"
	"testing"

	"intermede/api"
	"intermede/sample"
)

func name(t *testing.T, s string) []api.Component {
	t.Helper()
	n, e := Parse(s)
	if e != api.OK {
		t.Fatalf("%q: %d", s, e)
	}
	return n
}

func TestText(t *testing.T) {
	long := strings.Repeat("x", 32)
	for s, want := range map[string][]api.Component{
		"a": {{ID: "a"}}, "a.b": {{ID: "a", Kind: "b"}}, ".k": {{Kind: "k"}}, `a.b/c\.d`: {{ID: "a", Kind: "b"}, {ID: "c.d"}}, `\/\\.\.`: {{ID: `/\`, Kind: "."}}, long + "." + long: {{ID: long, Kind: long}}, "~!": {{ID: "~!"}},
	} {
		n, e := Parse(s)
		if !slices.Equal(n, want) || e != api.OK || !Valid(n) {
			t.Errorf("%q: %v %d", s, n, e)
		}
		if got, e := Text(want); got != s || e != api.OK {
			t.Errorf("%q: %q", s, got)
		}
	}
	for _, s := range []string{"", "/", "a/", "/a", "a//b", ".", "a.", "a.b.c", "a..b", `\a`, `a\`, "a b", "a\x7f", "\x1f", long + "x", "." + long + "x", strings.Repeat("a/", 20) + "a", "a./b"} {
		if n, e := Parse(s); e != api.ErrSyntax || n != nil {
			t.Errorf("%q: %d", s, e)
		}
	}
	if n, e := Parse(strings.Repeat("a/", 19) + "a"); len(n) != 20 || e != api.OK {
		t.Error(e)
	}
	if _, e := Parse(strings.Repeat("a", 65537)); e != api.ErrLong {
		t.Error(e)
	}
	for i, n := range [][]api.Component{nil, {{}}, {{ID: "a b"}}, {{ID: long + "x"}}, make([]api.Component, 21)} {
		if _, e := Text(n); e != api.ErrInvalid || Valid(n) {
			t.Error(i, e)
		}
	}
	a, b, c := api.Component{ID: "a"}, api.Component{ID: "a", Kind: "k"}, api.Component{ID: "b"}
	if Compare(a, a) != 0 || Compare(a, b) != -1 || Compare(c, b) != 1 {
		t.Error("Compare")
	}
	for i, x := range []api.Component{{}, {ID: " "}, {ID: "a", Kind: "\x7f"}, {Kind: "é"}, {ID: long + "x"}, {ID: "a", Kind: long + "x"}} {
		if Compare(x, a) != 0 || Compare(a, x) != 0 || Compare(x, c) != 0 || Compare(c, x) != 0 {
			t.Error("Compare of what is no component", i)
		}
	}
	if Compare(api.Component{Kind: "~"}, a) != -1 || Compare(a, api.Component{ID: long, Kind: long}) != -1 {
		t.Error("Compare")
	}
}

func rest(r api.Rest, e api.Errno) string { return fmt.Sprintf("%d.%d %d", r.Done, r.Why, e) }

type step1 struct{ got, want string }

func steps(t *testing.T, l []step1) {
	t.Helper()
	for i, s := range l {
		if s.got != s.want {
			t.Errorf("%d: %q instead of %q", i, s.got, s.want)
		}
	}
}

func TestStore(t *testing.T) {
	s := New()
	n := func(text string) []api.Component { return name(t, text) }
	resolve := func(context int, text string) string {
		b, r, e := s.Resolve(context, n(text))
		return fmt.Sprintf("%s%d%v ", b.Object, b.Context, b.IsContext) + rest(r, e)
	}
	makeAt := func(text string) string {
		c, r, e := s.MakeAt(0, n(text))
		return fmt.Sprint(c, " ") + rest(r, e)
	}
	steps(t, []step1{
		{rest(s.Bind(0, n("o"), "obj")), "0.0 0"}, {rest(s.Bind(0, n("o"), "x")), "0.0 6"}, {makeAt("c"), "1 0.0 0"}, {makeAt("c"), "0 0.0 6"}, {makeAt("c/d"), "2 0.0 0"}, {rest(s.Bind(0, n("c/d/e"), "deep")), "0.0 0"}, {resolve(0, "c/d/e"), "deep0false 0.0 0"}, {resolve(1, "d/e"), "deep0false 0.0 0"}, {resolve(0, "c/d"), "2true 0.0 0"}, {resolve(0, "o"), "obj0false 0.0 0"}, {resolve(0, "o/x"), "0false 0.2 10"}, {resolve(0, "c/q/x"), "0false 1.1 8"}, {resolve(0, "c/q"), "0false 1.1 8"}, {resolve(9, "c"), "0false 0.0 7"}, {resolve(-1, "c"), "0false 0.0 7"},
		{rest(s.Rebind(0, n("o"), "new")), "0.0 0"}, {resolve(0, "o"), "new0false 0.0 0"}, {rest(s.Rebind(0, n("c/d"), "x")), "1.3 10"}, {rest(s.Rebind(0, n("p"), "x")), "0.0 0"}, {rest(s.RebindContext(0, n("c/d/e"), 1)), "2.2 10"}, {rest(s.RebindContext(0, n("c/d"), 1)), "0.0 0"}, {resolve(0, "c/d/d/d"), "1true 0.0 0"}, {rest(s.RebindContext(0, n("new"), 7)), "0.0 7"}, {rest(s.BindContext(0, n("x"), 0)), "0.0 0"}, {resolve(0, "x/x/x/p"), "x0false 0.0 0"}, {rest(s.BindContext(0, n("x"), 9)), "0.0 7"}, {rest(s.BindContext(0, n("x"), 1)), "0.0 6"}, {rest(s.BindContext(0, n("o/y"), 1)), "0.2 10"},
		{rest(s.Unbind(0, n("p"))), "0.0 0"}, {rest(s.Unbind(0, n("p"))), "0.1 8"}, {rest(s.Unbind(0, n("c/z"))), "1.1 8"}, {fmt.Sprint(s.Destroy(0)), "9"}, {fmt.Sprint(s.Destroy(1)), "9"}, {fmt.Sprint(s.Destroy(2)), "9"}, {fmt.Sprint(s.Destroy(3)), "7"}, {rest(s.Unbind(2, n("e"))), "0.0 0"}, {rest(s.BindContext(0, n("gone"), 2)), "0.0 0"}, {fmt.Sprint(s.Destroy(2)), "0"}, {fmt.Sprint(s.Contexts()), "[0 1]"},
		{resolve(0, "gone"), "0false 0.1 8"}, {resolve(0, "gone/x"), "0false 0.1 8"}, {rest(s.Bind(0, n("gone"), "x")), "0.0 6"}, {rest(s.BindContext(0, n("gone"), 1)), "0.0 6"}, {makeAt("gone"), "0 0.0 6"}, {rest(s.Rebind(0, n("gone"), "x")), "0.3 10"}, {rest(s.Bind(0, n("gone/y"), "x")), "0.1 8"}, {rest(s.RebindContext(0, n("gone"), 1)), "0.0 0"}, {resolve(0, "gone"), "1true 0.0 0"},
		{rest(s.Bind(0, nil, "x")), "0.0 1"}, {rest(s.Bind(9, nil, "x")), "0.0 1"}, {rest(s.Bind(0, n("big"), strings.Repeat("x", 65537))), "0.0 1"}, {rest(s.Rebind(0, n("big"), strings.Repeat("x", 65537))), "0.0 1"},
	})
	if m, e := s.Make(); m != 3 || e != api.OK {
		t.Error(m, e)
	}
	l, all, e := s.List(0, 1, 2)
	if len(l) != 2 || all != 4 || e != api.OK || l[0].Component.ID != "gone" || !l[0].IsContext || l[1].Object != "new" {
		t.Error(l, all, e)
	}
	for i, c := range [][3]int{{9, 0, 0}, {0, -1, 0}, {0, 0, -1}} {
		if _, _, e := s.List(c[0], c[1], c[2]); e != api.ErrRange {
			t.Error(i, e)
		}
	}
	if l, all, e := s.List(0, 9, 9); len(l) != 0 || all != 4 || e != api.OK {
		t.Error(l, all, e)
	}
}

func TestLimits(t *testing.T) {
	s := New()
	for range 999 {
		s.Make()
	}
	if _, e := s.Make(); e != api.ErrLimit {
		t.Error(e)
	}
	if _, _, e := s.MakeAt(0, name(t, "a")); e != api.ErrLimit {
		t.Error(e)
	}
	for i := range 2000 {
		if _, e := s.Bind(0, name(t, "n"+strconv.Itoa(i)), ""); e != api.OK {
			t.Fatal(e)
		}
	}
	if _, e := s.Bind(0, name(t, "more"), ""); e != api.ErrLimit {
		t.Error(e)
	}
	if _, e := s.Rebind(0, name(t, "more"), ""); e != api.ErrLimit {
		t.Error(e)
	}
	if _, e := s.Rebind(0, name(t, "n7"), "x"); e != api.OK {
		t.Error(e)
	}
	s.Destroy(5)
	if _, _, e := s.MakeAt(0, name(t, "a")); e != api.ErrLimit || len(s.Contexts()) != 999 {
		t.Error(e)
	}
	s.Unbind(0, name(t, "n7"))
	if c, _, e := s.MakeAt(0, name(t, "a")); c != 1000 || e != api.OK {
		t.Error(c, e)
	}
}

func TestWays(t *testing.T) {
	s := New()
	for range 4 {
		s.Make()
	}
	bind := func(from int, part string, to int) {
		if _, e := s.BindContext(from, name(t, part), to); e != api.OK {
			t.Fatal(e)
		}
	}
	bind(0, "x", 0)
	bind(0, "b", 1)
	bind(0, "a", 1)
	bind(0, "z", 2)
	bind(1, "c", 2)
	bind(2, "back", 0)
	bind(1, "d", 3)
	bind(2, "e", 3)
	bind(0, "b!", 2)
	for _, c := range []struct {
		from, to, most int
		want           string
	}{{0, 3, 100, "a/d b!/e b/d z/e a/c/e b/c/e"}, {0, 3, 2, "a/d b!/e"}, {0, 0, 5, ""}, {3, 0, 5, ""}, {2, 1, 5, "back/a back/b"}, {0, 2, 9, "b! z a/c b/c"}, {0, 4, 9, ""}} {
		if l, e := s.Ways(c.from, c.to, c.most); strings.Join(l, " ") != c.want || e != api.OK {
			t.Error(c, l, e)
		}
	}
	for i, c := range [][3]int{{9, 0, 1}, {0, 9, 1}, {0, 1, 0}, {0, 1, 101}} {
		if _, e := s.Ways(c[0], c[1], c[2]); e != api.ErrRange {
			t.Error(i, e)
		}
	}
	if l, e := s.Reached(1); fmt.Sprint(l) != "[0 1 2 3]" || e != api.OK {
		t.Error(l, e)
	}
	if l, _ := s.Reached(4); fmt.Sprint(l) != "[4]" {
		t.Error(l)
	}
	if _, e := s.Reached(9); e != api.ErrRange {
		t.Error(e)
	}
	// A cluster of contexts that all lead to each other, but to the one that is sought only by its first one.
	dense := New()
	for range 41 {
		dense.Make()
	}
	for i := 1; i <= 40; i++ {
		for j := 1; j <= 40; j++ {
			dense.BindContext(i, name(t, "n"+strconv.Itoa(j)), j)
		}
	}
	dense.BindContext(0, name(t, "in"), 1)
	dense.BindContext(1, name(t, "out"), 41)
	if l, e := dense.Ways(0, 41, 100); strings.Join(l, " ") != "in/out" || e != api.OK {
		t.Error(l, e)
	}
	line := New()
	for i := range 25 {
		line.MakeAt(i, name(t, "n"))
	}
	if l, _ := line.Ways(0, 20, 5); len(l) != 1 {
		t.Error(l)
	}
	if l, _ := line.Ways(0, 21, 5); len(l) != 0 {
		t.Error(l)
	}
}

func TestFormat(t *testing.T) {
	s := New()
	s.MakeAt(0, name(t, `a\.b.k`))
	s.Bind(1, name(t, "o"), "say \"x\\y\"\nend")
	s.Make()
	s.Destroy(2)
	s.BindContext(1, name(t, "."+"z"), 1)
	want := "next 3\ncontext 0\n  context a\\.b.k 1\ncontext 1\n  context .z 1\n  object o \"say \\\"x\\\\y\\\"\\nend\"\n"
	if s.Format() != want {
		t.Error(s.Format())
	}
	if x, line, e := Read(want); e != api.OK || line != 0 || x.Format() != want {
		t.Error(line, e)
	}
	for _, c := range []struct {
		s    string
		line int
	}{
		{"", 0}, {"x", 0}, {"next 1", 0}, {"next 0\n", 0}, {"next 01\ncontext 0\n", 0}, {"next 1\n", 1}, {"next 1\ncontext 1\n", 1}, {"next 1\n  object a \"\"\n", 1}, {"next 1\ncontext 0", 1}, {"next 1\ncontext 0\n\n", 2}, {"next 1\ncontext 0\ncontext 0\n", 2}, {"next 2\ncontext 0\ncontext 2\n", 2}, {"next 2\ncontext 0\ncontext 1 \n", 2}, {"next 2\ncontext 0\n  context a 2\n", 2}, {"next 2\ncontext 0\n  context a 01\n", 2}, {"next 2\ncontext 0\n  object a x\n", 2}, {"next 2\ncontext 0\n  object a \"x\n", 2}, {"next 2\ncontext 0\n  object a \"\\x\"\n", 2}, {"next 2\ncontext 0\n  object a \"\\\"\n", 2}, {"next 2\ncontext 0\n  object a \"\"\"\n", 2}, {"next 2\ncontext 0\n  object a \"\n", 2}, {"next 2\ncontext 0\n  object a/b \"\"\n", 2}, {"next 2\ncontext 0\n  thing a \"\"\n", 2}, {"next 2\ncontext 0\n  object b \"\"\n  object a \"\"\n", 3}, {"next 2\ncontext 0\n  object a \"\"\n  context a 0\n", 3}, {"next 2\ncontext 0\n object a \"\"\n", 2}, {"next 2\ncontext 0\n  object a\n", 2},
	} {
		if x, line, e := Read(c.s); e != api.ErrSyntax || line != c.line || x != nil {
			t.Errorf("%q: %d at %d", c.s, e, line)
		}
	}
	if _, line, e := Read(strings.Repeat("x", 65537)); e != api.ErrLong || line != 0 {
		t.Error(e)
	}
}

func TestNil(t *testing.T) {
	var s *Store
	a := name(t, "a")
	_, e1 := s.Make()
	_, e2 := s.Bind(0, a, "")
	_, e3 := s.BindContext(0, a, 0)
	_, e4 := s.Rebind(0, a, "")
	_, e5 := s.RebindContext(0, a, 0)
	_, _, e6 := s.MakeAt(0, a)
	_, _, e7 := s.Resolve(0, a)
	_, e8 := s.Unbind(0, a)
	_, _, e9 := s.List(0, 0, 0)
	_, e10 := s.Reached(0)
	_, e11 := s.Ways(0, 0, 1)
	for i, e := range []api.Errno{e1, e2, e3, e4, e5, e6, e7, e8, e9, e10, e11, s.Destroy(0)} {
		if e != api.ErrInvalid {
			t.Error(i, e)
		}
	}
	if s.Contexts() != nil || s.Format() != "" {
		t.Error("nil")
	}
	if n, e := new(Store).Make(); n != 1 || e != api.OK {
		t.Error("a new store", n, e)
	}
}

func TestRandom(t *testing.T) {
	s := sample.New(151)
	parts := []string{"a", "b", ".k", `c\/`, "b!", "a.b"}
	for range 300 {
		x := New()
		for range 40 {
			n := name(t, parts[s.Int(len(parts))])
			if s.Int(3) == 0 {
				n = append(n, name(t, parts[s.Int(len(parts))])...)
			}
			c := s.Int(7)
			switch s.Int(8) {
			case 0:
				x.Make()
			case 1:
				x.Bind(c, n, s.Text("a\"\\\n", 4))
			case 2, 3:
				x.BindContext(c, n, s.Int(7))
			case 4:
				x.MakeAt(c, n)
			case 5:
				x.Unbind(c, n)
			case 6:
				x.Destroy(c)
			default:
				x.RebindContext(c, n, s.Int(7))
			}
		}
		f := x.Format()
		y, _, e := Read(f)
		if e != api.OK || y.Format() != f || !reflect.DeepEqual(x, y) {
			t.Fatalf("%q: %d", f, e)
		}
		for _, from := range x.Contexts() {
			reached, _ := x.Reached(from)
			for _, to := range x.Contexts() {
				ways, _ := x.Ways(from, to, 100)
				want := simple(x, from, to, map[int]bool{from: true})
				slices.SortFunc(want, func(a, b string) int {
					if n := len(name(t, a)) - len(name(t, b)); n != 0 {
						return n
					}
					return strings.Compare(a, b)
				})
				if from == to {
					want = nil
				}
				if !slices.Equal(ways, want[:min(len(want), 100)]) || (len(ways) > 0 || from == to) != slices.Contains(reached, to) {
					t.Fatal(f, from, to, ways, want)
				}
				for _, w := range ways {
					if b, _, e := x.Resolve(from, name(t, w)); e != api.OK || b.Context != to {
						t.Fatal(w)
					}
				}
			}
		}
	}
}

// simple returns all ways that pass no context twice, in any order.
func simple(x *Store, from, to int, passed map[int]bool) []string {
	var l []string
	bindings, _, _ := x.List(from, 0, 1000)
	for _, b := range bindings {
		part, _ := Text([]api.Component{b.Component})
		if !b.IsContext || !slices.Contains(x.Contexts(), b.Context) || passed[b.Context] {
			continue
		}
		if b.Context == to {
			l = append(l, part)
			continue
		}
		passed[b.Context] = true
		for _, rest := range simple(x, b.Context, to, passed) {
			l = append(l, part+"/"+rest)
		}
		delete(passed, b.Context)
	}
	return l
}
