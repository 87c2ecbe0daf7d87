package adapter

import (
	"fmt"
	"reflect"
	"slices"
	"strconv"
	"strings"
	"testing"

	"intermede/api"
	"intermede/policy"
	"intermede/sample"
)

// tree makes a tree with an adapter a that is active.
func tree(t *testing.T, policies string) *Tree {
	t.Helper()
	x := New()
	create(t, x, "", "a", policies)
	return x
}

// set makes a set of policies in any order.
func set(policies string) ([]api.Policy, api.Errno) {
	var l []api.Policy
	for _, s := range strings.Split(policies, ", ") {
		one, e := policy.Parse(s)
		if e != api.OK {
			return nil, e
		}
		l = append(l, one...)
	}
	return policy.Of(l)
}

func create(t *testing.T, x *Tree, path, name, policies string) {
	t.Helper()
	set, e := set(policies)
	if e2 := x.Create(path, name, set); e != api.OK || e2 != api.OK {
		t.Fatal(e, e2)
	}
	own := strings.TrimPrefix(path+"/"+name, "/")
	if _, e := x.SetState(own, active); e != api.OK {
		t.Fatal(e)
	}
}

func show(l []api.Begun, e api.Errno) string {
	s := ""
	for _, b := range l {
		s += fmt.Sprintf("%d:%d.%d%s ", b.Call, b.Status, b.Servant, b.Target)
	}
	if e != api.OK {
		s += fmt.Sprint("!", int(e))
	}
	return strings.TrimSpace(s)
}

func begin(x *Tree, path, id string) string {
	b, e := x.Begin(path, id)
	if e != api.OK {
		return show(nil, e)
	}
	return show([]api.Begun{b}, e)
}

func told(x *Tree) string {
	s := ""
	for _, g := range x.Told() {
		s += fmt.Sprintf("%s.%s.%d %v %v ", g.Path, g.ID, g.Servant, g.Others, g.Adapter)
	}
	return strings.TrimSpace(s)
}

type step struct{ got, want string }

func steps(t *testing.T, l []step) {
	t.Helper()
	for i, s := range l {
		if s.got != s.want {
			t.Errorf("%d: %q instead of %q", i, s.got, s.want)
		}
	}
}

func text[T any](x T, e api.Errno) string {
	if e != api.OK {
		return fmt.Sprint("!", int(e))
	}
	return fmt.Sprint(x)
}

func TestExample(t *testing.T) {
	x := tree(t, "")
	steps(t, []step{{text(x.Activate("a", 7)), "1"}, {begin(x, "a", "1"), "1:0.7"}, {show(x.Deactivate("a", "1")), ""}, {begin(x, "a", "1"), "2:1.0"}, {text(x.Under("a")), "[1]"}, {text(x.Servant("a", "1")), "!8"}, {text(x.IDs("a")), "[1]"}, {show(x.Deactivate("a", "1")), "!8"}, {show(x.End(1)), "2:4.0"}, {text(x.IDs("a")), "[]"}, {show(x.End(1)), "!8"}, {told(x), ""}})
}

func TestTree(t *testing.T) {
	x := New()
	create(t, x, "", "b", "thread free, lifespan persistent")
	create(t, x, "", "a", "")
	create(t, x, "a", "c1", "retain forget, process default, unique multiple")
	clash, _ := policy.Parse("retain forget")
	calls, _ := policy.Parse("limit 5")
	steps(t, []step{
		{text(x.Kids("")), "[a b]"}, {text(x.Kids("a")), "[c1]"}, {text(x.Kids("b")), "[]"}, {text(x.Kids("c")), "!5"}, {text(x.Policies("b")), "[{2 2}]"}, {text(x.Policies("a/c1")), "[{3 2} {5 2} {6 2}]"}, {text(x.Policies("")), "[]"}, {text(x.State("")), "1"}, {text(x.State("a/b")), "!5"},
		{text(0, x.Create("", "a", nil)), "!6"}, {text(0, x.Create("z", "a", nil)), "!5"}, {text(0, x.Create("z", "A", nil)), "!1"}, {text(0, x.Create("", "", nil)), "!1"}, {text(0, x.Create("", "1a", nil)), "!1"}, {text(0, x.Create("", strings.Repeat("a", 33), nil)), "!1"}, {text(0, x.Create("", "d", clash)), "!1"}, {text(0, x.Create("", "d", calls)), "!1"}, {text(0, x.Create("", "d", []api.Policy{{Kind: 1, Value: 9}})), "!1"},
		{show(x.SetState("", 3)), "!7"}, {show(x.SetState("a", 4)), "!7"}, {show(x.SetState("a", -1)), "!7"}, {show(x.SetState("q", 9)), "!5"}, {show(x.SetState("", 0)), ""}, {show(x.SetState("b", 3)), ""}, {show(x.SetState("b", 1)), "!9"}, {text(0, x.Create("b", "d", nil)), "!9"},
	})
	for i := range 96 {
		if e := x.Create("", "x"+strconv.Itoa(i), nil); e != api.OK {
			t.Fatal(i, e)
		}
	}
	if e := x.Create("", "more", nil); e != api.ErrLimit {
		t.Error(e)
	}
}

func TestStates(t *testing.T) {
	x := New()
	x.Create("", "a", nil)
	x.Create("", "b", nil)
	x.Activate("a", 5)
	steps(t, []step{{begin(x, "a", "1"), "1:1.0"}, {begin(x, "a", "2"), "2:1.0"}, {begin(x, "b", "1"), "3:1.0"}, {show(x.SetState("a", holding)), ""}, {show(x.SetState("a", active)), "1:0.5 2:4.0"}, {show(x.SetState("a", discarding)), ""}, {begin(x, "a", "1"), "4:2.0"}, {show(x.SetState("b", discarding)), "3:2.0"}, {show(x.SetState("b", holding)), ""}, {begin(x, "b", "1"), "5:1.0"}, {show(x.SetState("b", inactive)), "5:3.0"}, {begin(x, "b", "1"), "6:3.0"}, {begin(x, "nothing", "1"), "7:3.0"}, {begin(x, "nothing:", "1"), "8:3.0"}, {begin(x, "a", ""), "!1"}, {begin(x, "a", strings.Repeat("x", 41)), "!1"}, {show(x.End(1)), ""}})
}

func TestSingle(t *testing.T) {
	x := tree(t, "thread single")
	x.Activate("a", 5)
	steps(t, []step{{begin(x, "a", "1"), "1:0.5"}, {begin(x, "a", "1"), "2:1.0"}, {begin(x, "a", "2"), "3:1.0"}, {begin(x, "a", "1"), "4:1.0"}, {show(x.End(2)), "!8"}, {show(x.End(1)), "2:0.5"}, {text(x.Under("a")), "[2]"}, {show(x.End(2)), "3:4.0 4:0.5"}})
}

func TestMap(t *testing.T) {
	x := tree(t, "")
	create(t, x, "", "u", "assign user, unique multiple")
	create(t, x, "", "f", "retain forget, process manager")
	create(t, x, "", "i", "activate implicit")
	steps(t, []step{
		{text(x.Activate("a", 5)), "1"}, {text(x.Activate("a", 5)), "!9"}, {text(x.Activate("a", 6)), "2"}, {text(x.Activate("a", 0)), "!1"}, {text(x.Activate("z", 1)), "!5"}, {text(x.Activate("u", 1)), "!10"}, {text(x.Activate("f", 1)), "!10"}, {text(x.ID("a", 6)), "2"}, {text(x.ID("a", 7)), "!8"}, {text(x.ID("a", 0)), "!1"}, {text(x.ID("u", 1)), "!10"}, {text(x.ID("f", 1)), "!10"}, {text(x.ID("i", 9)), "1"}, {text(x.ID("i", 9)), "1"}, {text(x.ID("i", 8)), "2"},
		{text(0, x.ActivateAs("a", "1", 5)), "!9"}, {text(0, x.ActivateAs("a", "1", 9)), "!6"}, {text(0, x.ActivateAs("a", "3", 9)), "!8"}, {show(x.Deactivate("a", "1")), ""}, {text(x.Activate("a", 9)), "3"}, {text(0, x.ActivateAs("a", "1", 9)), "!9"}, {text(0, x.ActivateAs("a", "1", 10)), "0"}, {text(x.Servant("a", "1")), "10"}, {text(0, x.ActivateAs("f", "1", 1)), "!10"}, {text(0, x.ActivateAs("a", "", 1)), "!1"}, {text(0, x.ActivateAs("a", "1", 0)), "!1"},
		{text(0, x.ActivateAs("u", "x:y", 1)), "0"}, {text(0, x.ActivateAs("u", "z", 1)), "0"}, {text(0, x.ActivateAs("u", "z", 2)), "!6"}, {text(x.IDs("u")), "[x:y z]"}, {text(x.IDs("z")), "!5"}, {text(x.Servant("u", "z")), "1"}, {text(x.Servant("u", "q")), "!8"}, {text(x.Servant("f", "q")), "!10"}, {text(x.Servant("u", "")), "!1"}, {show(x.Deactivate("f", "1")), "!10"}, {show(x.Deactivate("u", "q")), "!8"}, {show(x.Deactivate("u", "")), "!1"},
		{begin(x, "u", "z"), "1:0.1"}, {show(x.Deactivate("u", "z")), ""}, {text(0, x.ActivateAs("u", "z", 3)), "!6"}, {begin(x, "a", "1"), "2:0.10"}, {show(x.Deactivate("a", "1")), ""}, {text(x.Activate("a", 10)), "!9"}, {text(x.ID("a", 10)), "1"}, {show(x.End(2)), ""}, {text(x.Activate("a", 10)), "4"},
	})
}

func TestDefault(t *testing.T) {
	x := tree(t, "process default, unique multiple, assign user")
	create(t, x, "", "f", "process default, unique multiple, retain forget")
	steps(t, []step{
		{begin(x, "a", "x"), "1:4.0"}, {text(x.Servant("a", "x")), "!8"}, {text(0, x.SetDefault("a", 0)), "!1"}, {text(0, x.SetDefault("", 1)), "!10"}, {text(0, x.SetDefault("z", 1)), "!5"}, {text(0, x.SetManager("a", api.Manager{First: 1})), "!10"}, {text(0, x.SetDefault("a", 7)), "0"}, {text(0, x.SetDefault("a", 8)), "!9"}, {begin(x, "a", "x"), "2:0.7"}, {text(x.Servant("a", "x")), "7"}, {text(0, x.ActivateAs("a", "x", 9)), "0"}, {text(x.Servant("a", "x")), "9"},
		{show(x.Deactivate("a", "x")), ""}, {begin(x, "a", "x"), "3:1.0"}, {text(x.Servant("a", "x")), "!8"}, {show(x.End(2)), "3:0.7"}, {told(x), ""}, {text(0, x.SetDefault("f", 3)), "0"}, {begin(x, "f", "q"), "4:0.3"}, {text(x.Servant("f", "q")), "3"},
	})
}

func TestManager(t *testing.T) {
	x := tree(t, "process manager, assign user")
	create(t, x, "", "f", "process manager, retain forget, thread single")
	m := api.Manager{First: 10, Refuses: []string{"no"}, Forwards: []string{"away"}, Target: "there"}
	steps(t, []step{
		{begin(x, "a", "x"), "1:4.0"}, {text(0, x.SetManager("a", m)), "0"}, {text(0, x.SetManager("a", m)), "!9"}, {text(0, x.SetManager("", m)), "!10"}, {text(0, x.SetDefault("a", 1)), "!10"}, {text(0, x.SetManager("z", m)), "!5"}, {text(0, x.SetManager("f", api.Manager{})), "!1"}, {text(0, x.SetManager("f", api.Manager{First: api.MaxTime + 1})), "!1"}, {text(0, x.SetManager("f", api.Manager{First: 1, Refuses: make([]string, 101)})), "!1"}, {text(0, x.SetManager("f", api.Manager{First: 1, Forwards: []string{""}})), "!1"},
		{begin(x, "a", "x"), "2:0.10"}, {begin(x, "a", "x"), "3:0.10"}, {begin(x, "a", "no"), "4:4.0"}, {begin(x, "a", "away"), "5:5.0there"}, {begin(x, "a", "y"), "6:0.11"}, {text(0, x.ActivateAs("a", "z", 12)), "0"}, {begin(x, "a", "w"), "7:4.0"}, {text(x.IDs("a")), "[x y z]"},
		{show(x.Deactivate("a", "z")), ""}, {told(x), "a.z.12 false false"}, {told(x), ""}, {begin(x, "a", "w"), "8:0.12"}, {show(x.Deactivate("a", "x")), ""}, {show(x.End(2)), ""}, {told(x), ""}, {begin(x, "a", "x"), "9:1.0"}, {show(x.End(3)), "9:0.13"}, {told(x), "a.x.10 false false"},
		{text(0, x.SetManager("f", m)), "0"}, {begin(x, "f", "x"), "10:0.10"}, {begin(x, "f", "x"), "11:1.0"}, {begin(x, "f", "away"), "12:1.0"}, {show(x.End(10)), "11:0.11"}, {show(x.End(11)), "12:5.0there"}, {begin(x, "f", "x"), "13:0.12"}, {text(x.IDs("f")), "[]"}, {told(x), ""},
	})
	y := tree(t, "process manager, assign user, unique multiple")
	y.SetManager("a", api.Manager{First: 1})
	y.ActivateAs("a", "p", 1)
	y.ActivateAs("a", "q", 1)
	y.Deactivate("a", "p")
	y.Deactivate("a", "q")
	if s := told(y); s != "a.p.1 true false a.q.1 false false" {
		t.Error(s)
	}
	z := tree(t, "process manager")
	z.SetManager("a", api.Manager{First: 5})
	steps(t, []step{{begin(z, "a", "1"), "1:0.5"}, {text(z.Activate("a", 9)), "2"}, {text(0, z.ActivateAs("a", "1", 8)), "!6"}, {show(z.End(1)), ""}, {show(z.Deactivate("a", "1")), ""}, {text(0, z.ActivateAs("a", "1", 8)), "!8"}})
}

func TestDestroy(t *testing.T) {
	x := tree(t, "process manager, assign user")
	x.SetManager("a", api.Manager{First: 1})
	create(t, x, "a", "c", "")
	create(t, x, "a", "b", "")
	create(t, x, "a/b", "d", "")
	x.SetState("a/b", holding)
	x.SetState("a/b/d", holding)
	steps(t, []step{
		{begin(x, "a", "z"), "1:0.1"}, {begin(x, "a", "y"), "2:0.2"}, {begin(x, "a/b", "1"), "3:1.0"}, {begin(x, "a/b/d", "1"), "4:1.0"}, {show(x.Deactivate("a", "y")), ""}, {begin(x, "a", "y"), "5:1.0"}, {show(x.Destroy("", true)), "!9"}, {show(x.Destroy("q", true)), "!5"}, {show(x.Destroy("a", true)), "4:3.0 3:3.0 5:3.0"}, {text(x.Kids("a")), "[]"}, {text(x.State("a")), "3"}, {text(x.State("a/b")), "!5"}, {begin(x, "a", "z"), "6:3.0"}, {text(0, x.Create("a", "e", nil)), "!9"}, {text(0, x.Create("", "a", nil)), "!6"}, {show(x.Destroy("a", false)), ""}, {told(x), ""},
		{show(x.End(2)), ""}, {told(x), "a.y.2 false true"}, {text(x.Under("a")), "[1]"}, {text(0, x.ActivateAs("a", "b", 9)), "0"}, {show(x.End(1)), ""}, {told(x), "a.b.9 false true a.z.1 false true"}, {text(x.State("a")), "!5"}, {text(x.Kids("")), "[]"},
	})
	create(t, x, "", "a", "process manager")
	x.SetManager("a", api.Manager{First: 1})
	steps(t, []step{{begin(x, "a", "z"), "7:0.1"}, {show(x.Destroy("a", false)), ""}, {show(x.End(7)), ""}, {told(x), ""}, {text(x.State("a")), "!5"}})
}

func TestLimits(t *testing.T) {
	x := tree(t, "process manager, assign user, unique multiple")
	x.SetManager("a", api.Manager{First: 1})
	for i := range 500 {
		if e := x.ActivateAs("a", "n"+strconv.Itoa(i), 1); e != api.OK {
			t.Fatal(e)
		}
	}
	if e := x.ActivateAs("a", "more", 1); e != api.ErrLimit {
		t.Error(e)
	}
	if s := begin(x, "a", "more"); s != "!4" {
		t.Error(s)
	}
	for i := range 500 {
		if s := begin(x, "a", "n1"); s != fmt.Sprintf("%d:0.1", i+1) {
			t.Fatal(s)
		}
	}
	if s := begin(x, "a", "n1"); s != "!4" {
		t.Error(s)
	}
	x.End(1)
	if s := begin(x, "a", "n1"); s != "501:0.1" {
		t.Error(s)
	}
}

func TestKeys(t *testing.T) {
	for _, c := range []struct {
		path, id   string
		epoch      int
		persistent bool
		want       string
	}{{"", "x", 0, false, "t0::x"}, {"a/b1", "1:2", 17, false, "t17:a/b1:1:2"}, {"a", "x", 9, true, "p0:a:x"}} {
		k, e := Key(c.path, c.id, c.epoch, c.persistent)
		path, id, epoch, persistent, e2 := OfKey(k)
		if c.persistent {
			c.epoch = 0
		}
		if k != c.want || e != api.OK || e2 != api.OK || path != c.path || id != c.id || epoch != c.epoch || persistent != c.persistent {
			t.Error(k, path, id, epoch, persistent, e, e2)
		}
	}
	for i, c := range []struct {
		path, id string
		epoch    int
		want     api.Errno
	}{{"a:", "x", -1, api.ErrInvalid}, {"a//b", "x", 0, api.ErrInvalid}, {"/a", "x", 0, api.ErrInvalid}, {"", "", 0, api.ErrInvalid}, {"", strings.Repeat("x", 41), 0, api.ErrInvalid}, {"a", "x", -1, api.ErrRange}} {
		if k, e := Key(c.path, c.id, c.epoch, false); e != c.want || k != "" {
			t.Error(i, e)
		}
	}
	for _, s := range []string{"", "t", "t0", "t0:", "t0:a", "t0:a:", "x0::x", "t::x", "t01::x", "t-1::x", "p1::x", "t0:A:x", "t0:a/:x", "t 0::x"} {
		if _, _, _, _, e := OfKey(s); e != api.ErrSyntax {
			t.Error(s, e)
		}
	}
}

func TestNil(t *testing.T) {
	var x *Tree
	for i, e := range []api.Errno{x.Create("", "a", nil), errno(x.Policies("")), errno(x.Kids("")), errno(x.State("")), errno(x.SetState("", 0)), errno(x.Activate("", 1)), x.ActivateAs("", "a", 1), errno(x.Deactivate("", "a")), errno(x.Servant("", "a")), errno(x.ID("", 1)), errno(x.IDs("")), x.SetDefault("", 1), x.SetManager("", api.Manager{First: 1}), errno(x.Begin("", "a")), errno(x.End(1)), errno(x.Destroy("a", true)), errno(x.Under(""))} {
		if e != api.ErrInvalid {
			t.Error(i, e)
		}
	}
	if x.Told() != nil {
		t.Error("nil")
	}
}

func errno[T any](_ T, e api.Errno) api.Errno { return e }

func TestRandom(t *testing.T) {
	s := sample.New(111)
	sets := []string{"", "thread single", "process manager", "process manager, thread single, unique multiple, assign user", "process default, unique multiple", "retain forget, process manager", "activate implicit"}
	for range 300 {
		x := New()
		for _, name := range []string{"a", "b"} {
			p, e := set(sets[s.Int(len(sets))])
			if e2 := x.Create("", name, p); e != api.OK || e2 != api.OK {
				t.Fatal(e, e2)
			}
			x.SetManager(name, api.Manager{First: 1})
		}
		x.Create("a", "c", nil)
		paths := []string{"a", "b", "a/c"}
		came, telling, ended := map[int]bool{}, map[int]int{}, map[int]bool{}
		note := func(l []api.Begun) {
			for _, b := range l {
				telling[b.Call]++
			}
		}
		for range 60 {
			path, id := paths[s.Int(3)], strconv.Itoa(1+s.Int(4))
			switch s.Int(12) {
			case 0:
				l, _ := x.SetState(path, s.Int(3))
				note(l)
			case 1, 2:
				l, _ := x.SetState(path, active)
				note(l)
				x.Activate(path, 1+s.Int(4))
			case 3:
				l, _ := x.Deactivate(path, id)
				note(l)
			case 4, 5, 6:
				c := 1 + s.Int(30)
				under, _ := x.Under(path)
				if l, e := x.End(c); e == api.OK {
					if ended[c] {
						t.Fatal("ended twice")
					}
					ended[c] = true
					note(l)
				} else if slices.Contains(under, c) {
					t.Fatal("under way")
				}
			case 7:
				if s.Int(5) == 0 {
					l, _ := x.Destroy(path, s.Int(2) == 0)
					note(l)
				}
			default:
				if b, e := x.Begin(path, id); e == api.OK {
					came[b.Call] = true
					if b.Status != waits {
						note([]api.Begun{b})
					}
				}
			}
			invariants(t, x, paths)
		}
		waiting := map[int]bool{}
		for _, a := range x.adapters {
			for _, c := range a.waiting {
				waiting[c.number] = true
			}
		}
		for c := range came {
			if telling[c] != 1 && !(telling[c] == 0 && waiting[c]) {
				t.Fatal("told", c, telling[c])
			}
		}
	}
}

func invariants(t *testing.T, x *Tree, paths []string) {
	for _, path := range paths {
		a := x.adapters[path]
		if a == nil {
			continue
		}
		under, _ := x.Under(path)
		if a.single && len(under) > 1 {
			t.Fatal("single")
		}
		seen := map[int]bool{}
		for _, o := range a.ids {
			if a.unique && seen[o.servant] {
				t.Fatal("unique")
			}
			seen[o.servant] = true
		}
	}
	for _, g := range x.Told() {
		for _, c := range x.calls {
			if c.in.path == g.Path && c.id == g.ID && !g.Adapter && reflect.DeepEqual(c.in, x.adapters[g.Path]) {
				t.Fatal("etherealised under way")
			}
		}
	}
}
