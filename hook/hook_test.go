package hook

import (
	"fmt"
	"reflect"
	"slices"
	"strings"
	"testing"

	"intermede/api"
	"intermede/sample"
)

func hook(name string, change func(*api.Hook)) api.Hook {
	h := api.Hook{Name: name, Error: 7, Target: "there"}
	if change != nil {
		change(&h)
	}
	return h
}

func fails(name string, points ...int) api.Hook {
	return hook(name, func(h *api.Hook) { h.Fails = points })
}

func turns(name string, points ...int) api.Hook {
	return hook(name, func(h *api.Hook) { h.Turns = points })
}

func adds(name string, l ...api.Add) api.Hook {
	return hook(name, func(h *api.Hook) { h.Adds = l })
}

var (
	done    = api.End{Kind: 1, Text: "done"}
	broken  = api.End{Kind: 2, Error: 500}
	turning = api.End{Kind: 3, Target: "else"}
)

func show(p api.Passage) string {
	s := strings.ReplaceAll(strings.TrimSpace(Format(p.Steps)), "\n", ", ")
	return fmt.Sprintf("%s; %d %d%s%s %v %v", s, p.End.Kind, p.End.Error, p.End.Text, p.End.Target, p.Made, p.Contexts)
}

func TestClient(t *testing.T) {
	for i, c := range []struct {
		hooks []api.Hook
		made  api.End
		want  string
	}{
		{nil, done, "; 1 0done true []"}, {[]api.Hook{hook("a", nil), hook("b", nil)}, done, "a 1, b 1, b 2, a 2; 1 0done true []"}, {[]api.Hook{hook("a", nil)}, broken, "a 1, a 3; 2 500 true []"}, {[]api.Hook{hook("a", nil)}, turning, "a 1, a 4; 3 0else true []"}, {[]api.Hook{hook("a", nil), fails("b", 1)}, done, "a 1, b 1 failed, a 3; 2 7 false []"}, {[]api.Hook{hook("a", nil), fails("b", 2)}, done, "a 1, b 1, b 2 failed, a 3; 2 7 true []"}, {[]api.Hook{hook("a", nil), turns("b", 1)}, done, "a 1, b 1 turned, a 4; 3 0there false []"}, {[]api.Hook{fails("a", 4), turns("b", 3), fails("c", 2)}, done, "a 1, b 1, c 1, c 2 failed, b 3 turned, a 4 failed; 2 7 true []"}, {[]api.Hook{hook("a", func(h *api.Hook) { h.Fails, h.Turns = []int{1}, []int{1} })}, done, "a 1 failed; 2 7 false []"},
		{[]api.Hook{adds("a", api.Add{Point: 1, Slot: 5, Text: "x"}), adds("b", api.Add{Point: 1, Slot: 3, Text: "y"}, api.Add{Point: 1, Slot: 5}, api.Add{Point: 1, Slot: 9})}, done, "a 1, b 1 failed, a 3; 2 101 false [{3 y} {5 x}]"}, {[]api.Hook{adds("a", api.Add{Point: 1, Slot: 5, Text: "x"}), adds("b", api.Add{Point: 1, Slot: 5, Text: "y", Over: true}, api.Add{Point: 7, Slot: 1})}, done, "a 1, b 1, b 2, a 2; 1 0done true [{5 y}]"}, {[]api.Hook{hook("a", func(h *api.Hook) { h.Fails, h.Adds = []int{1}, []api.Add{{Point: 1, Slot: 2, Text: "z"}} })}, done, "a 1 failed; 2 7 false [{2 z}]"},
	} {
		p, e := Client(c.hooks, nil, c.made)
		if show(p) != c.want || e != api.OK || !Balanced(1, p.Steps) {
			t.Errorf("%d: %s instead of %s", i, show(p), c.want)
		}
	}
	if p, _ := Client([]api.Hook{adds("a", api.Add{Point: 1, Slot: 5})}, []api.Slot{{Slot: 5, Text: "old"}}, done); show(p) != "a 1 failed; 2 101 false [{5 old}]" {
		t.Error(show(p))
	}
}

func TestServer(t *testing.T) {
	for i, c := range []struct {
		hooks []api.Hook
		made  api.End
		want  string
	}{
		{[]api.Hook{hook("a", nil), hook("b", nil)}, done, "a 5, b 5, a 6, b 6, b 7, a 7; 1 0done true []"}, {[]api.Hook{hook("a", nil)}, broken, "a 5, a 6, a 8; 2 500 true []"}, {[]api.Hook{hook("a", nil)}, turning, "a 5, a 6, a 9; 3 0else true []"}, {[]api.Hook{hook("a", nil), fails("b", 5), hook("c", nil)}, done, "a 5, b 5 failed, a 8; 2 7 false []"}, {[]api.Hook{hook("a", nil), turns("b", 6), hook("c", nil)}, done, "a 5, b 5, c 5, a 6, b 6 turned, c 9, b 9, a 9; 3 0there false []"}, {[]api.Hook{turns("a", 8), fails("b", 7)}, done, "a 5, b 5, a 6, b 6, b 7 failed, a 8 turned; 3 0there true []"},
		{[]api.Hook{adds("a", api.Add{Point: 7, Slot: 1, Text: "x"}), hook("b", func(h *api.Hook) { h.Fails, h.Adds = []int{7}, []api.Add{{Point: 7, Slot: 2, Text: "y"}} })}, done, "a 5, b 5, a 6, b 6, b 7 failed, a 8; 2 7 true [{2 y}]"},
	} {
		p, e := Server(c.hooks, nil, c.made)
		if show(p) != c.want || e != api.OK || !Balanced(2, p.Steps) {
			t.Errorf("%d: %s instead of %s", i, show(p), c.want)
		}
	}
}

func TestWhole(t *testing.T) {
	a := adds("a", api.Add{Point: 1, Slot: 1, Text: "c"}, api.Add{Point: 1, Slot: 2, Text: "c"})
	s := adds("s", api.Add{Point: 5, Slot: 3, Text: "s5"}, api.Add{Point: 7, Slot: 1, Text: "s7", Over: true}, api.Add{Point: 7, Slot: 4, Text: "s7"})
	p, q, e := Whole([]api.Hook{a}, []api.Hook{s}, done)
	if show(p) != "a 1, a 2; 1 0done true [{1 s7} {2 c} {4 s7}]" || show(q) != "s 5, s 6, s 7; 1 0done true [{1 s7} {2 c} {3 s5} {4 s7}]" || e != api.OK {
		t.Error(show(p), show(q))
	}
	p, q, _ = Whole([]api.Hook{a}, []api.Hook{fails("s", 5)}, done)
	if show(p) != "a 1, a 3; 2 7 true [{1 c} {2 c}]" || show(q) != "s 5 failed; 2 7 false [{1 c} {2 c}]" {
		t.Error(show(p), show(q))
	}
	p, q, _ = Whole([]api.Hook{a, fails("b", 1)}, []api.Hook{s}, done)
	if show(p) != "a 1, b 1 failed, a 3; 2 7 false [{1 c} {2 c}]" || !reflect.DeepEqual(q, api.Passage{}) {
		t.Error(show(p), q)
	}
	half := adds("s", api.Add{Point: 7, Slot: 9, Text: "set"}, api.Add{Point: 7, Slot: 1, Text: "not"}, api.Add{Point: 7, Slot: 8, Text: "not"})
	p, _, _ = Whole([]api.Hook{a}, []api.Hook{half}, done)
	if show(p) != "a 1, a 3; 2 101 true [{1 c} {2 c} {9 set}]" {
		t.Error(show(p))
	}
}

func TestValid(t *testing.T) {
	for i, c := range []struct {
		h    api.Hook
		want bool
	}{
		{hook("a1", nil), true}, {hook("", nil), false}, {hook("A", nil), false}, {hook("1", nil), false}, {hook("a_", nil), false}, {hook(strings.Repeat("a", 33), nil), false}, {hook("a", func(h *api.Hook) { h.Error = 0 }), false}, {hook("a", func(h *api.Hook) { h.Error = 101 }), false}, {fails("a", 1, 2, 9), true}, {fails("a", 2, 1), false}, {fails("a", 1, 1), false}, {fails("a", 0), false}, {fails("a", 10), false}, {turns("a", 1, 3, 4, 5, 6, 8, 9), true}, {turns("a", 2), false}, {turns("a", 7), false}, {hook("a", func(h *api.Hook) { h.Target = strings.Repeat("x", 65537) }), false},
		{adds("a", api.Add{Point: 2}), false}, {adds("a", api.Add{Point: 0}), false}, {adds("a", api.Add{Point: 1, Slot: 1001}), false}, {adds("a", api.Add{Point: 9, Slot: 1000}), true}, {adds("a", api.Add{Point: 1, Slot: -1}), false}, {adds("a", api.Add{Point: 1, Text: strings.Repeat("x", 65537)}), false}, {adds("a", make([]api.Add, 11)...), false},
	} {
		if Valid(c.h) != c.want {
			t.Error(i)
		}
		want := api.Errno(api.ErrInvalid)
		if c.want {
			want = api.OK
		}
		_, e1 := Client([]api.Hook{c.h}, nil, done)
		_, e2 := Server([]api.Hook{c.h}, nil, done)
		_, _, e3 := Whole(nil, []api.Hook{c.h}, done)
		if e1 != want || e2 != want || e3 != want {
			t.Error(i, e1, e2, e3)
		}
	}
	for i, c := range []struct {
		o    api.End
		want bool
	}{{done, true}, {broken, true}, {turning, true}, {api.End{}, false}, {api.End{Kind: 4}, false}, {api.End{Kind: 1, Error: 1}, false}, {api.End{Kind: 1, Target: "x"}, false}, {api.End{Kind: 1, Text: strings.Repeat("x", 65537)}, false}, {api.End{Kind: 2}, false}, {api.End{Kind: 2, Error: 1001}, false}, {api.End{Kind: 2, Error: 1, Text: "x"}, false}, {api.End{Kind: 3, Text: "x"}, false}, {api.End{Kind: 3}, true}} {
		if ValidOutcome(c.o) != c.want {
			t.Error(i)
		}
		if n, e := Point(1, c.o); c.want && (n != c.o.Kind+1 || e != api.OK) || !c.want && e != api.ErrInvalid {
			t.Error(i, n, e)
		}
		if n, e := Point(2, c.o); c.want && (n != c.o.Kind+6 || e != api.OK) {
			t.Error(i, n, e)
		}
		if _, e := Point(3, c.o); c.want && e != api.ErrRange {
			t.Error(i, e)
		}
	}
	a := hook("a", nil)
	_, e1 := Client([]api.Hook{a, a}, nil, done)
	_, e2 := Server([]api.Hook{a, a}, nil, done)
	_, _, e3 := Whole([]api.Hook{a, a}, nil, done)
	_, _, e4 := Whole(nil, []api.Hook{a, a}, done)
	_, _, e5 := Whole([]api.Hook{a}, []api.Hook{a}, done)
	if e1 != api.ErrDuplicate || e2 != api.ErrDuplicate || e3 != api.ErrDuplicate || e4 != api.ErrDuplicate || e5 != api.OK {
		t.Error(e1, e2, e3, e4, e5)
	}
	many := make([]api.Hook, 21)
	for i := range many {
		many[i] = hook("h"+string(rune('a'+i)), nil)
	}
	if _, e := Client(many, nil, done); e != api.ErrInvalid {
		t.Error(e)
	}
	if _, e := Client(many[:20], nil, done); e != api.OK {
		t.Error(e)
	}
	for i, l := range [][]api.Slot{{{Slot: 1}, {Slot: 1}}, {{Slot: 2}, {Slot: 1}}, {{Slot: -1}}, {{Slot: 1001}}, make([]api.Slot, 101)} {
		_, e1 := Client(nil, l, done)
		_, e2 := Server(nil, l, done)
		_, _, e3 := Merge(l, nil, 1)
		_, e4 := Get(l, 1)
		if e1 != api.ErrInvalid || e2 != api.ErrInvalid || e3 != api.ErrInvalid || e4 != api.ErrInvalid {
			t.Error(i)
		}
	}
}

func TestMerge(t *testing.T) {
	base := []api.Slot{{Slot: 2, Text: "b"}, {Slot: 5, Text: "e"}}
	l, ok, e := Merge(base, []api.Add{{Point: 1, Slot: 3, Text: "c"}, {Point: 5, Slot: 4, Text: "no"}, {Point: 1, Slot: 5, Text: "E", Over: true}, {Point: 1, Slot: 0, Text: "a"}}, 1)
	if fmt.Sprint(l) != "[{0 a} {2 b} {3 c} {5 E}]" || !ok || e != api.OK || base[1].Text != "e" {
		t.Error(l, ok, e)
	}
	l, ok, e = Merge(base, []api.Add{{Point: 1, Slot: 3, Text: "c"}, {Point: 1, Slot: 3, Text: "d"}, {Point: 1, Slot: 9}}, 1)
	if fmt.Sprint(l) != "[{2 b} {3 c} {5 e}]" || ok || e != api.OK {
		t.Error(l, ok, e)
	}
	if _, _, e := Merge(base, []api.Add{{Point: 2}}, 1); e != api.ErrInvalid {
		t.Error(e)
	}
	if s, e := Get(base, 5); s != "e" || e != api.OK {
		t.Error(s, e)
	}
	if _, e := Get(base, 3); e != api.ErrNone {
		t.Error(e)
	}
}

func TestSteps(t *testing.T) {
	// Steps of the other side do not count.
	for s, want := range map[string][2]bool{
		"": {true, true}, "a 1\na 2\n": {true, true}, "a 1\nb 1\nb 2\na 3\n": {true, true}, "a 1\nb 1\na 2\nb 3\n": {false, true}, "a 1\n": {false, true}, "a 2\n": {false, true}, "a 1 failed\n": {true, true}, "a 1\na 2\na 2\n": {false, true}, "a 1\nb 1 failed\na 4\n": {true, true}, "a 6\n": {true, true},
		"a 2\na 1\n": {false, true}, "a 1\nb 2\na 2\nb 1\n": {false, true}, "a 1\nb 2\nb 1\na 2\n": {false, true}, "b 4\na 1\nb 1\na 4\n": {false, true}, "a 1\na 2\nb 1\nb 2\n": {false, true}, "a 7\na 5\na 6\n": {true, false}, "a 5\nb 7\nb 5\na 6\nb 6\na 7\n": {true, false}, "a 5\nb 5\na 6\nb 6 failed\nb 8\na 8\n": {true, true},
		"a 5\na 6\na 7\n": {true, true}, "a 5\nb 5 turned\na 9 failed\n": {true, true}, "a 5\nb 5 turned\nb 9\na 9\n": {true, false}, "a 5\n": {true, false}, "a 7\n": {true, false},
	} {
		l, e := Parse(s)
		if e != api.OK || Format(l) != s {
			t.Errorf("%q: %d", s, e)
		}
		if got := [2]bool{Balanced(1, l), Balanced(2, l)}; got != want {
			t.Errorf("%q: %v instead of %v", s, got, want)
		}
	}
	for _, s := range []string{"a", "a 1", "a\n", "a 0\n", "a 10\n", "a 01\n", "A 1\n", "a 1 \n", "a 1 done\n", "a  1\n", "\n", "a 1\n\n", "a 1 failed \n", "a 1\r\n"} {
		if l, e := Parse(s); e != api.ErrSyntax || l != nil {
			t.Errorf("%q: %d", s, e)
		}
	}
	if _, e := Parse(strings.Repeat("x", 65537)); e != api.ErrLong {
		t.Error(e)
	}
	if _, e := Parse(strings.Repeat("a 1\n", 1001)); e != api.ErrSyntax {
		t.Error(e)
	}
	many := make([]api.Step, 1001)
	if Format([]api.Step{{Name: "a", Point: 1, Did: 3}}) != "" || Format(many) != "" || Balanced(1, many) || Steps(many, "") != nil || Balanced(3, nil) || Balanced(1, []api.Step{{Name: "a", Point: 6, Did: 3}}) {
		t.Error("steps that are none")
	}
	l, _ := Parse("a 1\nb 1\nb 2\na 2\n")
	if !slices.Equal(Steps(l, "a"), []int{1, 2}) || Steps(l, "c") != nil {
		t.Error("Steps")
	}
}

func random(s *sample.Source, name string) api.Hook {
	h := hook(name, nil)
	for p := 1; p <= 9; p++ {
		if s.Int(12) == 0 {
			h.Fails = append(h.Fails, p)
		}
		if mayTurn(p) && s.Int(12) == 0 {
			h.Turns = append(h.Turns, p)
		}
		if mayAdd(p) && s.Int(3) == 0 {
			h.Adds = append(h.Adds, api.Add{Point: p, Slot: s.Int(6), Text: name, Over: s.Int(3) > 0})
		}
	}
	return h
}

func TestRandom(t *testing.T) {
	s := sample.New(121)
	for range 2000 {
		var a, b []api.Hook
		for i := range s.Int(4) {
			a = append(a, random(s, "a"+string(rune('0'+i))))
			b = append(b, random(s, "b"+string(rune('0'+i))))
		}
		made := []api.End{done, broken, turning}[s.Int(3)]
		p, q, e := Whole(a, b, made)
		if e != api.OK || !Balanced(1, p.Steps) || !Balanced(2, q.Steps) || !ValidOutcome(p.End) {
			t.Fatal(show(p), show(q))
		}
		last(t, p, q.End)
		if p.Made {
			last(t, q, made)
		}
		started := true
		for _, st := range p.Steps {
			started = started && (st.Point != 1 || st.Did == wentOn)
		}
		if p.Made != started {
			t.Fatal("made")
		}
		l, _ := Parse(Format(p.Steps))
		if !slices.Equal(l, p.Steps) {
			t.Fatal(Format(p.Steps))
		}
		contexts := []api.Slot{{Slot: 1, Text: "x"}, {Slot: 3, Text: "y"}}
		r, _ := Client(a, contexts, made)
		for _, c := range contexts {
			if _, e := Get(r.Contexts, c.Slot); e != api.OK {
				t.Fatal("lost")
			}
		}
	}
}

// last asks that the outcome is that of the last step that failed or turned.
func last(t *testing.T, p api.Passage, made api.End) {
	t.Helper()
	want := made.Kind
	for _, s := range p.Steps {
		if s.Did != wentOn {
			want = s.Did + 1
		}
	}
	if p.End.Kind != want {
		t.Fatal(show(p))
	}
}
