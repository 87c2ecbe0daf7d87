package policy

import (
	"fmt"
	"slices"
	"strings"
	"testing"

	"intermede/api"
	"intermede/sample"
)

// set makes a set of pairs of kinds and values.
func set(l ...int) []api.Policy {
	var s []api.Policy
	for i := 0; i < len(l); i += 2 {
		s = append(s, api.Policy{Kind: l[i], Value: l[i+1]})
	}
	return s
}

func TestValid(t *testing.T) {
	most := map[int][2]int{1: {1, 2}, 2: {1, 2}, 3: {1, 2}, 4: {1, 2}, 5: {1, 2}, 6: {1, 3}, 7: {1, 2}, 8: {1, 3}, 9: {1, 4}, 10: {0, 1000000}, 11: {1, 3}, 12: {0, 100}, 13: {1, 4}}
	for kind := -1; kind < 16; kind++ {
		b, there := most[kind]
		for _, n := range []int{-1, 0, 1, 2, 3, 4, 5, 100, 101, 1000000, 1000001} {
			if Valid(api.Policy{Kind: kind, Value: n}) != (there && n >= b[0] && n <= b[1]) {
				t.Error(kind, n)
			}
		}
		n, e := Default(kind)
		if there && (n != b[0] || e != api.OK) || !there && e != api.ErrKind {
			t.Error(kind, n, e)
		}
		if n, e := Get(set(1, 2), kind); kind != 1 && (there && (n != b[0] || e != api.OK) || !there && e != api.ErrKind) {
			t.Error(kind, n, e)
		}
		if _, e := Without(nil, kind); there != (e == api.OK) || !there && e != api.ErrKind {
			t.Error(kind, e)
		}
	}
	for i, s := range [][]api.Policy{set(1, 1, 1, 2), set(2, 1, 1, 1), set(1, 3), set(14, 1)} {
		_, e1 := Get(s, 99)
		_, e2 := Put(s, api.Policy{Kind: 1, Value: 1})
		_, e3 := Without(s, 99)
		_, e4 := Over(nil, s)
		_, e5 := Effective([][]api.Policy{nil, s})
		_, e6 := Clashes(s)
		_, e7 := Adapters(s)
		_, e8 := Calls(s)
		_, _, e9 := Agree(nil, s)
		_, e10 := Plain(s)
		_, e11 := Same(nil, s)
		for j, e := range []api.Errno{e1, e2, e3, e4, e5, e6, e7, e8, e9, e10, e11} {
			if e != api.ErrInvalid {
				t.Error(i, j, e)
			}
		}
		if ValidSet(s) || Format(s) != "" {
			t.Error(i)
		}
	}
}

func TestSets(t *testing.T) {
	if s, e := Of(set(5, 2, 1, 2, 10, 0)); !slices.Equal(s, set(1, 2, 5, 2, 10, 0)) || e != api.OK {
		t.Error(s, e)
	}
	if _, e := Of(set(5, 2, 5, 1)); e != api.ErrDuplicate {
		t.Error(e)
	}
	if _, e := Of(set(5, 2, 5, 3)); e != api.ErrInvalid {
		t.Error(e)
	}
	if _, e := Of(make([]api.Policy, 101)); e != api.ErrInvalid {
		t.Error(e)
	}
	if s, e := Put(set(1, 2, 5, 2), api.Policy{Kind: 3, Value: 2}); !slices.Equal(s, set(1, 2, 3, 2, 5, 2)) || e != api.OK {
		t.Error(s, e)
	}
	if s, _ := Put(set(1, 2), api.Policy{Kind: 1, Value: 1}); !slices.Equal(s, set(1, 1)) {
		t.Error(s)
	}
	if _, e := Put(nil, api.Policy{}); e != api.ErrInvalid {
		t.Error(e)
	}
	if s, e := Without(set(1, 2, 5, 2), 5); !slices.Equal(s, set(1, 2)) || e != api.OK {
		t.Error(s, e)
	}
	if s, _ := Without(set(1, 2), 5); !slices.Equal(s, set(1, 2)) {
		t.Error(s)
	}
	if s, e := Over(set(1, 2, 3, 2), set(2, 2, 3, 1, 9, 4)); !slices.Equal(s, set(1, 2, 2, 2, 3, 1, 9, 4)) || e != api.OK {
		t.Error(s, e)
	}
	if s, e := Effective([][]api.Policy{set(1, 2), set(1, 1), set(9, 2)}); !slices.Equal(s, set(1, 1, 9, 2)) || e != api.OK {
		t.Error(s, e)
	}
	if _, e := Effective(make([][]api.Policy, 101)); e != api.ErrInvalid {
		t.Error(e)
	}
	s := set(1, 1, 7, 2, 8, 1, 10, 0, 13, 2)
	a, _ := Adapters(s)
	c, _ := Calls(s)
	p, _ := Plain(s)
	if !slices.Equal(a, s[:2]) || !slices.Equal(c, s[2:]) || !slices.Equal(p, set(7, 2, 13, 2)) {
		t.Error(a, c, p)
	}
	if ok, e := Same(s, p); !ok || e != api.OK {
		t.Error(e)
	}
	if ok, _ := Same(s, set(7, 2)); ok {
		t.Error("Same")
	}
}

func TestClashes(t *testing.T) {
	for s, want := range map[string]string{
		"": "[]", "retain forget": "[[5 6]]", "process default": "[[3 6]]", "unique multiple, process default": "[]", "assign user, activate implicit": "[[4 7]]", "retain forget, process manager, activate implicit": "[[5 7]]", "assign user, retain forget, process default, activate implicit": "[[3 6] [4 7] [5 7]]", "route store": "[[9 11]]", "certainty none, route store": "[[9 11]]", "certainty server, route store": "[]", "order deadline": "[[10 13]]", "limit 5, order deadline": "[]", "rebind never, route forward": "[[8 11]]", "rebind never, certainty done, route store": "[[8 11]]", "rebind never": "[]", "retain forget, route store, order deadline": "[[5 6] [9 11] [10 13]]",
	} {
		x, e := Parse(s)
		l, e2 := Clashes(x)
		if fmt.Sprint(l) != want || e != api.OK || e2 != api.OK {
			t.Error(s, l, e, e2)
		}
	}
}

func TestAgree(t *testing.T) {
	for _, c := range []struct {
		client, server, want string
		kind                 int
		e                    api.Errno
	}{
		{"", "", "", 0, 0}, {"limit 50", "limit 20", "limit 20", 0, 0}, {"limit 50", "", "limit 50", 0, 0}, {"", "limit 20", "limit 20", 0, 0}, {"limit 5", "limit 20", "limit 5", 0, 0}, {"rebind never", "rebind keep", "rebind never", 0, 0}, {"", "rebind keep", "rebind keep", 0, 0}, {"certainty none", "", "", 0, 0}, {"certainty none", "certainty none", "certainty none", 0, 0}, {"certainty server", "certainty done", "certainty done", 0, 0}, {"certainty done", "certainty none", "certainty done", 0, 0},
		{"route forward", "", "", 11, api.ErrState}, {"route forward", "route store", "route forward", 0, 0}, {"certainty done, route store", "route store", "certainty done, route store", 0, 0}, {"route store", "route store", "", 9, api.ErrState}, {"route store", "certainty server, route store", "certainty server, route store", 0, 0}, {"route store", "route forward", "", 11, api.ErrState}, {"", "route store", "", 0, 0},
		{"priority 50", "", "priority 50", 0, 0}, {"priority 50", "priority 20", "priority 20", 0, 0}, {"priority 50", "priority 0", "", 0, 0}, {"", "priority 20", "", 0, 0}, {"order time", "order priority", "order time", 0, 0}, {"", "order priority", "order priority", 0, 0}, {"order deadline", "", "", 10, api.ErrState}, {"order deadline", "limit 5", "limit 5, order deadline", 0, 0}, {"rebind never", "route forward", "rebind never", 0, 0}, {"route forward", "rebind never, route forward", "", 8, api.ErrState},
		{"thread single, retain forget", "process default", "", 0, 0}, {"rebind never, route store", "route store", "", 8, api.ErrState},
	} {
		a, _ := Parse(c.client)
		b, _ := Parse(c.server)
		s, kind, e := Agree(a, b)
		if Format(s) != c.want || kind != c.kind || e != c.e {
			t.Errorf("%q %q: %q %d %d", c.client, c.server, Format(s), kind, e)
		}
	}
}

func TestText(t *testing.T) {
	for _, s := range []string{"", "thread single", "thread free, lifespan persistent, unique multiple, assign user, retain forget, process manager, activate implicit, rebind never, certainty done, limit 1000000, route store, priority 100, order deadline", "limit 0, priority 0"} {
		x, e := Parse(s)
		if Format(x) != s || e != api.OK {
			t.Error(s, Format(x), e)
		}
	}
	for _, s := range []string{" ", "thread", "thread ", "thread  single", "thread none", "nothing 1", "limit 01", "limit x", "limit 1000001", "limit -1", "priority 101", "thread single,lifespan persistent", "thread single, ", "lifespan persistent, thread single", "thread single, thread free", "limit", " 1"} {
		if x, e := Parse(s); e != api.ErrSyntax || x != nil {
			t.Error(s, e)
		}
	}
	if _, e := Parse(strings.Repeat("x", 65537)); e != api.ErrLong {
		t.Error(e)
	}
}

func random(s *sample.Source) []api.Policy {
	var l []api.Policy
	for kind := 1; kind <= 13; kind++ {
		if s.Int(3) > 0 {
			continue
		}
		p := api.Policy{Kind: kind, Value: byDefault(kind) + s.Int(sorts[kind].most+1-byDefault(kind))}
		if kind == limit {
			p.Value = s.Int(4)
		}
		l = append(l, p)
	}
	return l
}

func TestRandom(t *testing.T) {
	s := sample.New(101)
	for range 3000 {
		a, b, c := random(s), random(s), random(s)
		ab, _ := Over(a, b)
		bc, _ := Over(b, c)
		x, _ := Over(ab, c)
		y, _ := Over(a, bc)
		aa, _ := Over(a, a)
		if !slices.Equal(x, y) || !slices.Equal(aa, a) {
			t.Fatal("over")
		}
		p, _ := Plain(a)
		q, _ := Plain(b)
		same, _ := Same(a, b)
		if same != slices.Equal(p, q) {
			t.Fatal("plain")
		}
		for kind := 1; kind <= 13; kind++ {
			n, _ := Get(a, kind)
			m, _ := Get(p, kind)
			if n != m {
				t.Fatal("plain", kind)
			}
			of, _ := Get(b, kind)
			if _, there := get(b, kind); there {
				if n, _ := Get(ab, kind); n != of {
					t.Fatal("over", kind)
				}
			}
		}
		if back, e := Parse(Format(a)); !slices.Equal(back, a) || e != api.OK {
			t.Fatal(Format(a))
		}
		g, kind, e := Agree(a, b)
		if e != api.OK {
			if e != api.ErrState || kind < 8 || g != nil {
				t.Fatal(e, kind)
			}
			continue
		}
		l, _ := Clashes(g)
		if len(l) > 0 || kind != 0 {
			t.Fatal("clash")
		}
		for _, side := range [][]api.Policy{a, b} {
			r, _ := get(side, rebind)
			rg, _ := get(g, rebind)
			ce, _ := get(side, certainty)
			cg, _ := get(g, certainty)
			li, _ := get(side, limit)
			lg, _ := get(g, limit)
			if rg < r || certaintyStrength(cg) < certaintyStrength(ce) || li > 0 && (lg > li || lg == 0) {
				t.Fatal("weaker", Format(a), Format(b), Format(g))
			}
		}
	}
}
