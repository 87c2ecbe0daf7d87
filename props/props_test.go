package props

import (
	"fmt"
	"reflect"
	"slices"
	"strconv"
	"strings"
	"testing"

	"intermede/api"
	"intermede/sample"
)

type step struct{ got, want string }

func steps(t *testing.T, l []step) {
	t.Helper()
	for i, s := range l {
		if s.got != s.want {
			t.Errorf("%d: %q instead of %q", i, s.got, s.want)
		}
	}
}

func text[T any](x T, e api.Errno) string {
	if e != api.OK {
		return fmt.Sprint("!", int(e))
	}
	return fmt.Sprint(x)
}

func code(e api.Errno) string { return strconv.Itoa(int(e)) }

// prop reads a short form: `NAME VALUE`.
func prop(s string) api.Prop {
	name, shown, _ := strings.Cut(s, " ")
	v, ok := read(shown)
	if !ok {
		panic(s)
	}
	return propOf(name, v)
}

func listed(s string) []api.Prop {
	var l []api.Prop
	for word := range strings.SplitSeq(s, "; ") {
		l = append(l, prop(word))
	}
	return l
}

func show(l ...api.Prop) string {
	var words []string
	for _, p := range l {
		words = append(words, p.Name+" "+valueOf(p).show())
	}
	return strings.Join(words, "; ")
}

func get(b *Bag, name string) string {
	p, e := b.Get(name)
	if e != api.OK {
		return text(p, e)
	}
	return show(p)
}

func bag(t *testing.T, kinds []int, rules ...api.Rule) *Bag {
	t.Helper()
	b, e := New(kinds, rules)
	if e != api.OK {
		t.Fatal(e)
	}
	return b
}

func TestValidProp(t *testing.T) {
	long := strings.Repeat("x", 1000)
	for i, c := range []struct {
		p    api.Prop
		want bool
	}{
		{api.Prop{Name: "a", Kind: 1}, true}, {api.Prop{Name: "A_9z", Kind: 1, N: 1e15}, true}, {api.Prop{Name: "a", Kind: 1, N: -1e15}, true}, {api.Prop{Name: "a", Kind: 1, N: 1e15 + 1}, false}, {api.Prop{Name: "a", Kind: 1, N: -1e15 - 1}, false}, {api.Prop{Name: "a", Kind: 1, S: "x"}, false}, {api.Prop{Name: "a", Kind: 1, L: []int{1}}, false}, {api.Prop{Name: "a", Kind: 1, L: []int{}}, true},
		{api.Prop{Name: "a", Kind: 2, S: long}, true}, {api.Prop{Name: "a", Kind: 2, S: long + "x"}, false}, {api.Prop{Name: "a", Kind: 2, N: 1}, false}, {api.Prop{Name: "a", Kind: 2, L: []int{1}}, false}, {api.Prop{Name: "a", Kind: 2, S: "\x00\xff"}, true},
		{api.Prop{Name: "a", Kind: 3, N: 1}, true}, {api.Prop{Name: "a", Kind: 3}, true}, {api.Prop{Name: "a", Kind: 3, N: 2}, false}, {api.Prop{Name: "a", Kind: 3, N: -1}, false}, {api.Prop{Name: "a", Kind: 3, S: "x"}, false},
		{api.Prop{Name: "a", Kind: 4}, true}, {api.Prop{Name: "a", Kind: 4, L: make([]int, 100)}, true}, {api.Prop{Name: "a", Kind: 4, L: make([]int, 101)}, false}, {api.Prop{Name: "a", Kind: 4, L: []int{1e15 + 1}}, false}, {api.Prop{Name: "a", Kind: 4, N: 1}, false}, {api.Prop{Name: "a", Kind: 4, S: "x"}, false},
		{api.Prop{Name: "a", Kind: 0}, false}, {api.Prop{Name: "a", Kind: 5}, false}, {api.Prop{Name: "a", Kind: -1}, false}, {api.Prop{Name: "", Kind: 1}, false}, {api.Prop{Name: "1a", Kind: 1}, false}, {api.Prop{Name: "_a", Kind: 1}, false}, {api.Prop{Name: "a-b", Kind: 1}, false}, {api.Prop{Name: "a ", Kind: 1}, false}, {api.Prop{Name: "\xe4", Kind: 1}, false}, {api.Prop{Name: long[:32], Kind: 1}, true}, {api.Prop{Name: long[:33], Kind: 1}, false},
	} {
		b := bag(t, nil)
		e := b.Define(c.p)
		e2 := b.DefineAs(c.p, 0)
		_, e3 := b.DefineAll([]api.Prop{{Name: "b", Kind: 1}, c.p})
		if ValidProp(c.p) != c.want || (e == api.OK) != c.want || !c.want && (e != api.ErrInvalid || e2 != e || e3 != e || len(b.All()) > 0) || c.want && (e2 != api.ErrRange || e3 != api.OK) {
			t.Error(i, c.p.Name, e, e2, e3)
		}
	}
}

func TestCompare(t *testing.T) {
	l := []string{`A 5`, `a -7`, `a 3`, `a 20`, `a ""`, `a "20"`, `a "3"`, `a "3x"`, `a "a"`, "a \"\xff\"", `a false`, `a true`, `a []`, `a [1]`, `a [1,-5]`, `a [1,2]`, `a [1,10]`, `a [2]`, `a_ 1`, `ab 1`, `b []`}
	for i, x := range l {
		for j, y := range l {
			want := 0
			switch {
			case i < j:
				want = -1
			case i > j:
				want = 1
			}
			if Compare(prop(x), prop(y)) != want {
				t.Error(x, y)
			}
		}
	}
	bad := api.Prop{Name: "a", Kind: 9}
	if Compare(prop("b 1"), bad) != 0 || Compare(bad, prop("b 1")) != 0 {
		t.Error("not valid")
	}
}

func TestNew(t *testing.T) {
	for i, c := range []struct {
		kinds []int
		rules []api.Rule
		want  api.Errno
	}{
		{nil, nil, api.OK}, {[]int{1, 2, 3, 4}, nil, api.OK}, {[]int{4}, []api.Rule{{Name: "a", Kind: 1, Mode: 1}}, api.OK}, {[]int{2, 1}, nil, api.ErrInvalid}, {[]int{2, 2}, nil, api.ErrInvalid}, {[]int{0}, nil, api.ErrInvalid}, {[]int{5}, nil, api.ErrInvalid}, {[]int{-1, 1}, nil, api.ErrInvalid},
		{nil, []api.Rule{{Name: "a", Kind: 0, Mode: 4}, {Name: "b", Kind: 4, Mode: 1}}, api.OK}, {nil, []api.Rule{{Name: "b", Mode: 1}, {Name: "a", Mode: 1}}, api.ErrInvalid}, {nil, []api.Rule{{Name: "a", Mode: 1}, {Name: "a", Mode: 1}}, api.ErrInvalid}, {nil, []api.Rule{{Name: "", Mode: 1}}, api.ErrInvalid}, {nil, []api.Rule{{Name: "a"}}, api.ErrInvalid}, {nil, []api.Rule{{Name: "a", Mode: 5}}, api.ErrInvalid}, {nil, []api.Rule{{Name: "a", Kind: 5, Mode: 1}}, api.ErrInvalid}, {nil, []api.Rule{{Name: "a", Kind: -1, Mode: 1}}, api.ErrInvalid},
	} {
		b, e := New(c.kinds, c.rules)
		kinds, rules := b.Allowed()
		if e != c.want || (b == nil) != (e != api.OK) || e == api.OK && (!slices.Equal(kinds, c.kinds) || !slices.Equal(rules, c.rules)) {
			t.Error(i, e)
		}
		for i := range kinds {
			kinds[i] = 9
		}
		for i := range rules {
			rules[i].Name = "?"
		}
		if kinds2, rules2 := b.Allowed(); slices.Contains(kinds2, 9) || slices.ContainsFunc(rules2, func(r api.Rule) bool { return r.Name == "?" }) {
			t.Error(i, "memory is shared")
		}
	}
}

func TestDefine(t *testing.T) {
	define := func(b *Bag, s string) string { return code(b.Define(prop(s))) }
	as := func(b *Bag, s string, mode int) string { return code(b.DefineAs(prop(s), mode)) }
	free := bag(t, nil)
	ruled := bag(t, []int{1, 2, 4}, api.Rule{Name: "a", Kind: 1, Mode: 2}, api.Rule{Name: "b", Kind: 0, Mode: 1}, api.Rule{Name: "c", Kind: 3, Mode: 1}, api.Rule{Name: "d", Kind: 2, Mode: 3})
	steps(t, []step{
		{define(free, "a 1"), "0"}, {define(free, "a 2"), "0"}, {get(free, "a"), "a 2"}, {define(free, `a "x"`), "10"}, {text(free.Mode("a")), "1"}, {as(free, "a 3", 3), "0"}, {get(free, "a"), "a 3"}, {text(free.Mode("a")), "3"}, {as(free, "a 4", 1), "9"}, {as(free, "a 4", 2), "9"}, {get(free, "a"), "a 3"}, {define(free, "a 4"), "0"}, {text(free.Mode("a")), "3"}, {as(free, "a 5", 4), "0"}, {as(free, "a 6", 4), "9"}, {define(free, "a 6"), "9"}, {as(free, `a "6"`, 4), "10"}, {get(free, "a"), "a 5"}, {as(free, "b true", 2), "0"}, {as(free, "b false", 1), "9"}, {as(free, "b true", 0), "7"}, {as(free, "b true", 5), "7"}, {as(free, "b true", -1), "7"},
		{define(ruled, "a 5"), "0"}, {define(ruled, "a 6"), "9"}, {define(ruled, `a "x"`), "10"}, {get(ruled, "a"), "a 5"}, {text(ruled.Mode("a")), "2"}, {define(ruled, "e 1"), "5"}, {define(ruled, "e true"), "5"}, {define(ruled, "b true"), "10"}, {define(ruled, "c true"), "10"}, {define(ruled, "c 1"), "10"}, {as(ruled, "b 1", 2), "9"}, {as(ruled, "b 1", 1), "0"}, {define(ruled, `b "x"`), "10"}, {as(ruled, `d "x"`, 4), "9"}, {define(ruled, "d 4"), "10"}, {define(ruled, `d "x"`), "0"}, {define(ruled, `d "y"`), "0"}, {text(ruled.Mode("d")), "3"}, {code(ruled.SetMode("d", 4)), "9"}, {code(ruled.SetMode("d", 3)), "0"}, {code(ruled.SetMode("a", 1)), "9"}, {as(ruled, "e true", 7), "7"},
	})
	for i := range 200 {
		define(free, "x"+strconv.Itoa(i)+" 1")
	}
	steps(t, []step{{define(free, "y 1"), "4"}, {as(free, "y 1", 1), "4"}, {define(free, "x3 2"), "0"}, {define(free, "x3 true"), "10"}, {get(free, "y"), "!8"}, {text(len(free.All()), api.OK), "200"}})
}

func TestDefineAll(t *testing.T) {
	all := func(b *Bag, s string) string { return told(b.DefineAll(listed(s))) }
	b := bag(t, nil, api.Rule{Name: "a", Kind: 1, Mode: 2}, api.Rule{Name: "b", Kind: 0, Mode: 1}, api.Rule{Name: "c", Kind: 0, Mode: 1})
	steps(t, []step{
		{all(b, "b 1; a 5; a 6; x 1; b true; c 1; c 2"), "[{a 9} {x 5} {b 10}] 9"}, {show(b.All()...), ""}, {all(b, "c 1; a 5; c 2"), "[] 0"}, {show(b.All()...), "a 5; c 2"}, {all(b, "c 3; a 5"), "[{a 9}] 9"}, {show(b.All()...), "a 5; c 2"}, {told(b.DefineAll(nil)), "[] 0"},
	})
	// What can't be is not there for those behind it.
	free := bag(t, nil)
	var l []api.Prop
	for i := range 199 {
		l = append(l, prop("x"+strconv.Itoa(i)+" 1"))
	}
	steps(t, []step{{told(free.DefineAll(l)), "[] 0"}, {all(free, "a 1; b 1; x4 7; b true"), "[{b 4} {b 4}] 9"}, {text(len(free.All()), api.OK), "199"}, {all(free, "a 1; x4 7"), "[] 0"}, {get(free, "x4"), "x4 7"}})
}

func told[T any](x T, e api.Errno) string { return fmt.Sprint(x, " ", int(e)) }

func TestGet(t *testing.T) {
	b := bag(t, nil)
	b.DefineAll(listed(`b "x"; a 1; B [1,2]; c true; d false`))
	b.SetMode("c", 2)
	b.SetMode("d", 3)
	getAll := func(names ...string) string {
		l, lacking, e := b.GetAll(names)
		return fmt.Sprint(show(l...), " ", lacking, " ", int(e))
	}
	names := func(from, most int) string {
		l, all, e := b.Names(from, most)
		return fmt.Sprint(l, " ", all, " ", int(e))
	}
	steps(t, []step{
		{get(b, "a"), "a 1"}, {get(b, "B"), "B [1,2]"}, {get(b, "e"), "!8"}, {get(b, "_"), "!1"}, {get(b, ""), "!1"}, {getAll("c", "x", "a", "c", "w", "x"), "c true; a 1; c true [x w x] 0"}, {getAll(), " [] 0"}, {getAll("a", "y", ""), " [] 1"}, {show(b.All()...), `B [1,2]; a 1; b "x"; c true; d false`},
		{names(0, 9), "[B a b c d] 5 0"}, {names(1, 2), "[a b] 5 0"}, {names(4, 2), "[d] 5 0"}, {names(5, 2), "[] 5 0"}, {names(99, 0), "[] 5 0"}, {names(0, 0), "[] 5 0"}, {names(-1, 0), "[] 0 7"}, {names(0, -1), "[] 0 7"},
		{text(b.Mode("a")), "1"}, {text(b.Mode("d")), "3"}, {text(b.Mode("e")), "!8"}, {text(b.Mode("e e")), "!1"}, {code(b.SetMode("e", 1)), "8"}, {code(b.SetMode("e", 0)), "7"}, {code(b.SetMode("e", 5)), "7"}, {code(b.SetMode("", 5)), "1"}, {code(b.SetMode("c", 1)), "0"}, {code(b.SetMode("c", 2)), "0"}, {code(b.SetMode("d", 2)), "9"}, {code(b.SetMode("d", 1)), "9"}, {code(b.SetMode("d", 4)), "0"}, {code(b.SetMode("d", 1)), "9"}, {code(b.SetMode("d", 3)), "0"},
		{code(b.Delete("e")), "8"}, {code(b.Delete("1")), "1"}, {code(b.Delete("d")), "9"}, {code(b.Delete("c")), "0"}, {get(b, "c"), "!8"}, {code(b.SetMode("B", 4)), "0"}, {deleted(b), "2 [B d] 0"}, {deleted(b), "0 [B d] 0"}, {show(b.All()...), "B [1,2]; d false"},
	})
}

func deleted(b *Bag) string {
	n, l, e := b.DeleteAll()
	return fmt.Sprint(n, " ", l, " ", int(e))
}

func TestMemory(t *testing.T) {
	b := bag(t, nil)
	l := []int{1, 2, 3}
	b.Define(api.Prop{Name: "a", Kind: 4, L: l[:2]})
	l[0] = 9
	p, _ := b.Get("a")
	p.L[0] = 8
	all := b.All()
	all[0].L[0] = 7
	c := b.Copy()
	some, _, _ := c.GetAll([]string{"a", "a"})
	some[0].L[0] = 6
	if get(b, "a") != "a [1,2]" || get(c, "a") != "a [1,2]" || some[1].L[0] != 1 {
		t.Error("memory is shared")
	}
	c.Define(prop("b 1"))
	c.Define(prop("a [5]"))
	if b.Format() != "kinds\na 1 [1,2]\n" || c.Format() != "kinds\na 1 [5]\nb 1 1\n" {
		t.Error("a copy changes what it is of")
	}
	var zero Bag
	if zero.Define(prop("a 1")) != api.OK || zero.Format() != "kinds\na 1 1\n" {
		t.Error("an empty bag")
	}
	var none *Bag
	_, e1 := none.DefineAll(nil)
	_, _, e2 := none.GetAll(nil)
	_, e3 := none.Mode("a")
	n, left, e4 := none.DeleteAll()
	_, _, e5 := none.Names(-1, 0)
	kinds, rules := none.Allowed()
	_, _, e6 := Differences(none, b)
	_, _, e7 := Differences(b, none)
	for i, e := range []api.Errno{none.Define(prop("a 1")), none.DefineAs(prop("a 1"), 9), none.SetMode("a", 9), none.Delete("a"), e1, e2, e3, e4, e5, e6, e7} {
		if e != api.ErrInvalid {
			t.Error(i, e)
		}
	}
	if n != 0 || left != nil || none.All() != nil || kinds != nil || rules != nil || none.Copy() != nil || none.Format() != "" || get(none, "a") != "!1" {
		t.Error("nil")
	}
}

func TestDifferences(t *testing.T) {
	a, b := bag(t, nil), bag(t, []int{1, 2, 3})
	a.DefineAll(listed(`a 1; b 2; c "x"; d true; f [1]`))
	b.DefineAll(listed(`a 1; b 3; c "y"; d 1; e "z"`))
	b.SetMode("a", 2)
	put, gone, e := Differences(a, b)
	if show(put...) != `b 3; c "y"; d 1; e "z"` || fmt.Sprint(gone) != "[f]" || e != api.OK {
		t.Error(show(put...), gone, e)
	}
	put, gone, e = Differences(b, b)
	if put != nil || gone != nil || e != api.OK {
		t.Error(put, gone, e)
	}
}

func readLine(s string) string {
	b, line, e := Read(s)
	if e != api.OK && b != nil {
		return "a bag with an error"
	}
	if e == api.OK && b.Format() != s {
		return "not back: " + b.Format()
	}
	return fmt.Sprint(line, " ", int(e))
}

func TestRead(t *testing.T) {
	many := "kinds\n"
	for i := range 200 {
		many += "x" + strconv.Itoa(100+i) + " 1 1\n"
	}
	steps(t, []step{
		{readLine(""), "0 2"}, {readLine("kinds"), "0 2"}, {readLine("kinds\n"), "0 0"}, {readLine("kinds \n"), "0 2"}, {readLine("kinds 1 2 4\n"), "0 0"}, {readLine("kinds 2 1\n"), "0 2"}, {readLine("kinds 1 1\n"), "0 2"}, {readLine("kinds 5\n"), "0 2"}, {readLine("kinds 0\n"), "0 2"}, {readLine("kinds 01\n"), "0 2"}, {readLine("kinds  1\n"), "0 2"}, {readLine("kinds a\n"), "0 2"}, {readLine("1 kinds\n"), "0 2"}, {readLine("\nkinds\n"), "0 2"}, {readLine("kinds\n\n"), "1 2"},
		{readLine("kinds 1\nrule a 0 2\nrule b 1 4\nb 4 -7\n"), "0 0"}, {readLine("kinds\nrule a 0 2\nrule a 1 4\n"), "2 2"}, {readLine("kinds\nrule b 0 2\nrule a 1 4\n"), "2 2"}, {readLine("kinds\nrule a 5 2\n"), "1 2"}, {readLine("kinds\nrule a 0 0\n"), "1 2"}, {readLine("kinds\nrule a 0 5\n"), "1 2"}, {readLine("kinds\nrule a 0\n"), "1 2"}, {readLine("kinds\nrule a 0 1 1\n"), "1 2"}, {readLine("kinds\nrule a 00 1\n"), "1 2"}, {readLine("kinds\nrule a x 1\n"), "1 2"}, {readLine("kinds\nrule a_b- 1 1\n"), "1 2"}, {readLine("kinds\na 1 1\nrule b 1 1\n"), "2 2"}, {readLine("kinds\nrule a 0 1"), "1 2"},
		{readLine("kinds\nkinds 1 5\n"), "0 0"}, {readLine("kinds\nkinds 2\n"), "1 2"}, {readLine("kinds\nrule 1 \"a b\"\n"), "0 0"}, {readLine("kinds\nrule rule 0 1\nrule 1 2\n"), "0 0"}, {readLine("kinds\nrule 1 1\nrule 1 2\n"), "2 2"}, {readLine("kinds\nrule kinds 0 1\nkinds 1 true\n"), "0 0"},
		{readLine("kinds\na 1 5\nb 2 \"x\\\"y\\\\\\n \x00\"\nc 3 true\nd 4 false\ne 1 []\nf 1 [1,-2,3]\n"), "0 0"}, {readLine("kinds\na 1 5\na 1 5\n"), "2 2"}, {readLine("kinds\nb 1 5\na 1 5\n"), "2 2"}, {readLine("kinds\na 0 5\n"), "1 2"}, {readLine("kinds\na 5 5\n"), "1 2"}, {readLine("kinds\na 01 5\n"), "1 2"}, {readLine("kinds\na 1  5\n"), "1 2"}, {readLine("kinds\na 1 05\n"), "1 2"}, {readLine("kinds\na 1 +5\n"), "1 2"}, {readLine("kinds\na 1 -0\n"), "1 2"}, {readLine("kinds\na 1 1000000000000000\n"), "0 0"}, {readLine("kinds\na 1 1000000000000001\n"), "1 2"}, {readLine("kinds\na 1 99999999999999999999\n"), "1 2"}, {readLine("kinds\na 1 x\n"), "1 2"}, {readLine("kinds\na 1 \n"), "1 2"}, {readLine("kinds\na 1\n"), "1 2"}, {readLine("kinds\na\n"), "1 2"}, {readLine("kinds\n a 1 1\n"), "1 2"}, {readLine("kinds\na 1 5 \n"), "1 2"}, {readLine("kinds\na 1 True\n"), "1 2"},
		{readLine("kinds\na 1 \"\n"), "1 2"}, {readLine("kinds\na 1 \"x\n"), "1 2"}, {readLine("kinds\na 1 \"\\x\"\n"), "1 2"}, {readLine("kinds\na 1 \"x\"y\"\n"), "1 2"}, {readLine("kinds\na 1 \"\\\"\n"), "1 2"}, {readLine("kinds\na 1 \"" + strings.Repeat("x", 1000) + "\"\n"), "0 0"}, {readLine("kinds\na 1 \"" + strings.Repeat("x", 1001) + "\"\n"), "1 2"}, {readLine("kinds\na 1 [\n"), "1 2"}, {readLine("kinds\na 1 [1,]\n"), "1 2"}, {readLine("kinds\na 1 [,]\n"), "1 2"}, {readLine("kinds\na 1 [1, 2]\n"), "1 2"}, {readLine("kinds\na 1 [01]\n"), "1 2"}, {readLine("kinds\na 1 [x]\n"), "1 2"}, {readLine("kinds\na 1 [" + strings.Repeat("1,", 99) + "1]\n"), "0 0"}, {readLine("kinds\na 1 [" + strings.Repeat("1,", 100) + "1]\n"), "1 2"},
		{readLine("kinds 2\na 1 5\n"), "1 2"}, {readLine("kinds\nrule a 2 1\na 1 5\n"), "2 2"}, {readLine("kinds\nrule a 1 1\na 2 5\n"), "2 2"}, {readLine("kinds\nrule a 1 1\nb 1 5\n"), "2 2"}, {readLine(many), "0 0"}, {readLine(many + "y 1 1\n"), "201 2"}, {readLine(strings.Repeat("x", api.MaxText)), "0 2"}, {readLine(strings.Repeat("x", api.MaxText+1)), "0 3"},
	})
}

// anyProp returns a property of few names.
func anyProp(r *sample.Source) api.Prop {
	p := api.Prop{Name: "n" + strconv.Itoa(r.Int(6)), Kind: 1 + r.Int(4)}
	switch p.Kind {
	case aNumber:
		p.N = r.Int(3)
	case aText:
		p.S = r.Text("a\"\\\n ", 4)
	case aTruth:
		p.N = r.Int(2)
	case aList:
		for range r.Int(3) {
			p.L = append(p.L, r.Int(3)-1)
		}
	}
	return p
}

// anyBag returns a bag with rules or without.
func anyBag(r *sample.Source) *Bag {
	var kinds []int
	var rules []api.Rule
	for kind := 1; kind <= aList; kind++ {
		if r.Int(3) == 0 {
			kinds = append(kinds, kind)
		}
	}
	for i := range 6 {
		if r.Int(4) == 0 {
			rules = append(rules, api.Rule{Name: "n" + strconv.Itoa(i), Kind: r.Int(5), Mode: 1 + r.Int(4)})
		}
	}
	b, _ := New(kinds, rules)
	return b
}

// change does something to a bag, and returns the name that it is about.
func change(r *sample.Source, b *Bag) string {
	p := anyProp(r)
	switch r.Int(6) {
	case 0, 1:
		b.Define(p)
	case 2:
		b.DefineAs(p, 1+r.Int(4))
	case 3:
		b.SetMode(p.Name, 1+r.Int(4))
	case 4:
		b.Delete(p.Name)
	case 5:
		if e := b.Define(p); e == api.OK {
			if got, e := b.Get(p.Name); e != api.OK || !reflect.DeepEqual(got, p) {
				panic("what was defined is not there")
			}
		}
	}
	return p.Name
}

func TestPromises(t *testing.T) {
	r := sample.New(30)
	for range 300 {
		b, other := anyBag(r), anyBag(r)
		for range 30 {
			before := b.Copy()
			name := change(r, b)
			change(r, other)
			for was := range before.inOrder() {
				x, y := before.entries[was], b.entries[was]
				same := get(before, was) == get(b, was)
				if was != name && (!same || x.mode != y.mode) || isFixed(x.mode) && !isFixed(y.mode) || isReadOnly(x.mode) && !same && get(b, was) != "!8" {
					t.Fatal("changed", before.Format(), b.Format())
				}
			}
			if s := readLine(b.Format()); s != "0 0" {
				t.Fatal(s, b.Format())
			}
		}
		l := []api.Prop{anyProp(r), anyProp(r), anyProp(r)}
		one, before := b.Copy(), b.Format()
		var faults []api.Fault
		for _, p := range l {
			if e := one.Define(p); e != api.OK {
				faults = append(faults, api.Fault{Name: p.Name, Error: e})
			}
		}
		bad, e := b.DefineAll(l)
		if fmt.Sprint(bad) != fmt.Sprint(faults) || (e == api.OK) != (bad == nil) || e != api.OK && b.Format() != before || e == api.OK && b.Format() != one.Format() {
			t.Fatal(bad, faults, e)
		}
		put, gone, _ := Differences(b, other)
		to, _ := New(nil, nil)
		for _, p := range b.All() {
			if !slices.Contains(gone, p.Name) && !slices.ContainsFunc(put, func(q api.Prop) bool { return q.Name == p.Name }) {
				to.Define(p)
			}
		}
		if _, e := to.DefineAll(put); e != api.OK || show(to.All()...) != show(other.All()...) {
			t.Fatal("do not lead there", put, gone)
		}
	}
}
