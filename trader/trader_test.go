package trader

import (
	"fmt"
	"reflect"
	"slices"
	"strconv"
	"strings"
	"testing"

	"intermede/api"
	"intermede/sample"
)

func num(name string, n int) api.Prop         { return api.Prop{Name: name, Kind: 1, N: n} }
func word(name, s string) api.Prop            { return api.Prop{Name: name, Kind: 2, S: s} }
func flag(name string, n int) api.Prop        { return api.Prop{Name: name, Kind: 3, N: n} }
func props(l ...api.Prop) []api.Prop          { return l }
func errno[T any](_ T, e api.Errno) api.Errno { return e }

func TestProps(t *testing.T) {
	for i, c := range []struct {
		p    api.Prop
		want bool
	}{{num("a_1", -maxNumber), true}, {num("a", maxNumber+1), false}, {num("a", -maxNumber-1), false}, {num("A", 1), false}, {num("1", 1), false}, {num("", 1), false}, {num("and", 1), false}, {num("first", 1), false}, {num(strings.Repeat("a", 33), 1), false}, {word("a", strings.Repeat("x", 65536)), true}, {word("a", strings.Repeat("x", 65537)), false}, {flag("a", 1), true}, {flag("a", 2), false}, {api.Prop{Name: "a", Kind: 1, S: "x"}, false}, {api.Prop{Name: "a", Kind: 2, N: 1}, false}, {api.Prop{Name: "a", Kind: 3, S: "x"}, false}, {api.Prop{Name: "a", Kind: 4}, false}, {api.Prop{Name: "a"}, false}, {api.Prop{Name: "a", Kind: 1, L: []int{1}}, false}} {
		if ValidProp(c.p) != c.want {
			t.Error(i)
		}
		if _, _, e := Value("1", []api.Prop{c.p}); (e == api.OK) != c.want {
			t.Error(i, e)
		}
	}
	if _, _, e := Value("1", props(num("b", 1), num("a", 1))); e != api.ErrInvalid {
		t.Error(e)
	}
	if _, e := Fits("1 +", props(num("a", 1), num("a", 1))); e != api.ErrInvalid {
		t.Error(e)
	}
}

func TestShow(t *testing.T) {
	for s, want := range map[string]string{
		"": "true", " a  and b or c ": "((a and b) or c)", "not a == b and c": "((not (a == b)) and c)", "a+b*-c-1": "((a + (b * (- c))) - 1)", "not not true": "(not (not true))", "exist cost": "(exist cost)", "a ~ 'x\\'\\\\y'": `(a ~ 'x\'\\y')`, "((a))": "a", "007": "7", "a - b - c": "((a - b) - c)", "a or b or c": "((a or b) or c)", "(a == b) == c": "((a == b) == c)", "--1": "(- (- 1))", "a_1<=2": "(a_1 <= 2)", "1000000000000000": "1000000000000000", "not (a or b)": "(not (a or b))",
	} {
		got, e := Show(s)
		if got != want || e != api.OK || !ValidExpr(s) {
			t.Errorf("%q: %q %d", s, got, e)
		}
		if again, e := Show(got); again != got || e != api.OK {
			t.Errorf("%q: %q", got, again)
		}
	}
	for _, s := range []string{" ", "a b", "a ==", "a == b == c", "== a", "(a", "a)", "1and 2", "1_", "1A", "A", "'a", "'a\\x'", "'a\\", "a = b", "a ! b", "not", "- not a", "exist", "exist 1", "exist and", "min", "first", "a + not b", "1000000000000001", "99999999999999999999", "a\tb", strings.Repeat("a", 33), "a.b"} {
		if got, e := Show(s); e != api.ErrSyntax || got != "" || ValidExpr(s) {
			t.Errorf("%q: %q %d", s, got, e)
		}
	}
	nest := func(n int, a, m, b string) string { return strings.Repeat(a, n) + m + strings.Repeat(b, n) }
	for i, c := range []struct {
		s string
		e api.Errno
	}{{nest(40, "(", "1", ")"), 0}, {nest(41, "(", "1", ")"), api.ErrLimit}, {nest(40, "-", "1", ""), 0}, {nest(41, "-", "1", ""), api.ErrLimit}, {nest(41, "not ", "true", ""), api.ErrLimit}, {nest(41, "(", "1", ")") + ")", api.ErrSyntax}, {nest(40, "(", "a+1", ")"), 0}, {nest(41, "(", "a+1", ")"), api.ErrLimit}, {nest(41, "1+(", "a", ")"), api.ErrLimit}, {nest(40, "1+(", "a", ")"), 0}, {nest(40, "1+(", "a+1", ")"), 0}, {nest(41, "1+(", "a+1", ")"), api.ErrLimit}, {nest(333, "1+", "a", ""), 0}, {nest(200, "(", "a", "+1)"), 0}, {nest(20, "-(1+", "a", ")"), 0}, {nest(21, "-(1+", "a", ")"), api.ErrLimit}, {nest(39, "-(", "a", ")"), 0}, {nest(40, "-(", "a", ")"), api.ErrLimit}, {nest(40, "not ", "(exist a)", ""), 0}, {nest(39, "not ", "((exist a))", ""), api.ErrLimit}, {nest(38, "not ", "((exist a))", ""), 0}, {nest(41, "(", "b", "==b)"), 0}, {nest(42, "(", "b", "==b)"), api.ErrLimit}, {strings.Repeat(" ", 1999) + "1", 0}, {strings.Repeat(" ", 2000) + "1", api.ErrLong}} {
		shown, e := Show(c.s)
		if e != c.e || ValidExpr(c.s) != (c.e == api.OK) {
			t.Error(i, e)
		}
		sameAs(t, c.s, shown)
	}
}

// sameAs asks that Show of what it shows of a text is that, with the same value, if it is not too long.
func sameAs(t *testing.T, text, shown string) {
	t.Helper()
	if shown == "" || len(shown) > maxExpr {
		return
	}
	p := props(num("a", 7), flag("b", 1), word("c", "x"))
	if again, e := Show(shown); again != shown || e != api.OK {
		t.Errorf("Show of Show of %q: %d", text, e)
	}
	v, ok, e := Value(text, p)
	w, ok2, e2 := Value(shown, p)
	if !reflect.DeepEqual(v, w) || ok != ok2 || e != api.OK || e2 != api.OK {
		t.Errorf("value of Show of %q: %d %d", text, e, e2)
	}
}

// deepExpr returns an expression nested about so deep, with needless parentheses here and there.
func deepExpr(s *sample.Source, deep int) string {
	x := []string{"a", "b", "1", "exist c"}[s.Int(4)]
	for range deep {
		op := []string{"or", "and", "==", "+", "*"}[s.Int(5)]
		switch s.Int(6) {
		case 0:
			x = "(" + x + ")"
		case 1:
			x = "(not " + x + ")"
		case 2:
			x = "-(" + x + ")"
		case 3:
			x = "(" + x + ") " + op + " a"
		case 4:
			x = "a " + op + " (" + x + ")"
		case 5:
			x += " " + []string{"or", "and"}[s.Int(2)] + " a"
		}
	}
	return x
}

func TestDeep(t *testing.T) {
	s := sample.New(162)
	over := 0
	for range 3000 {
		text := deepExpr(s, 30+s.Int(60))
		shown, e := Show(text)
		if e == api.ErrLimit {
			over++
		} else if e != api.OK {
			t.Fatal(text, e)
		}
		sameAs(t, text, shown)
	}
	if over < 300 || over > 2700 {
		t.Error(over)
	}
}

func TestValue(t *testing.T) {
	p := props(num("cost", 3), flag("free", 0), word("name", "int"), flag("open", 1))
	for s, want := range map[string]string{
		"": "true", "cost": "3", "name": "'int'", "open": "true", "nothing": "none", "cost + 4 * 2": "11", "7 / -2": "-3", "cost / 0": "none", "-cost": "-3", "-name": "none", "cost + name": "none", "1000000000000000 + 1": "none", "-1000000000000000 - 1": "none", "1000000000 * 1000001": "none", "1000000000 * 1000000": "1000000000000000", "cost < 5": "true", "cost >= 3": "true", "name == 'int'": "true", "name != 'x'": "true", "name < 'j'": "true", "open == true": "true", "open != free": "true", "open < free": "none", "cost == name": "none", "'int' ~ 'printer'": "true", "'x' ~ name": "false", "cost ~ name": "none", "cost ~ cost": "none", "exist cost": "true", "exist nothing": "false",
		"nothing and false": "false", "false and nothing": "false", "nothing and true": "none", "cost and free": "false", "nothing or true": "true", "cost or open": "true", "nothing or false": "none", "cost or free": "none", "not open": "false", "not cost": "none", "not nothing": "none", "cost < 5 and name ~ 'printer'": "true", "nothing == nothing": "none", "true and true": "true", "false or false": "false", "open and cost == 3": "true",
	} {
		v, ok, e := Value(s, p)
		got := "none"
		switch {
		case !ok:
			if !reflect.DeepEqual(v, api.Prop{}) {
				t.Error(s, v)
			}
		case v.Kind == 1:
			got = strconv.Itoa(v.N)
		case v.Kind == 2:
			got = "'" + v.S + "'"
		default:
			got = strconv.FormatBool(v.N == 1)
		}
		if got != want || e != api.OK || v.Name != "" {
			t.Errorf("%s: %s instead of %s", s, got, want)
		}
		if fits, e := Fits(s, p); fits != (want == "true") || e != api.OK {
			t.Error(s, fits, e)
		}
	}
}

func offers(l ...[]api.Prop) []api.Offer {
	var out []api.Offer
	for i, p := range l {
		out = append(out, api.Offer{ID: i + 1, Props: p})
	}
	return out
}

func ids(l []api.Offer) string {
	s := ""
	for _, o := range l {
		s += strconv.Itoa(o.ID)
	}
	return s
}

func TestSorted(t *testing.T) {
	l := offers(props(num("cost", 3)), props(), props(num("cost", 7)), props(num("cost", 3)), props(word("cost", "x")))
	mixed := []api.Offer{l[4], l[2], l[3], l[0], l[1]}
	for s, want := range map[string]string{"": "12345", "first": "12345", " first ": "12345", "min cost": "14325", "max cost": "31425", "with cost == 7": "31245", "with exist cost": "13452", "min - cost": "31425", "max nothing": "12345"} {
		if got, e := Sorted(s, mixed); ids(got) != want || e != api.OK {
			t.Error(s, ids(got), e)
		}
	}
	for s, want := range map[string]api.Errno{"min": api.ErrSyntax, "first x": api.ErrSyntax, "cost": api.ErrSyntax, " ": api.ErrSyntax, "max cost +": api.ErrSyntax, "min " + strings.Repeat(" ", 2000): api.ErrLong, "min " + strings.Repeat("(", 41) + "1" + strings.Repeat(")", 41): api.ErrLimit} {
		if got, e := Sorted(s, l); e != want || got != nil {
			t.Error(s, e)
		}
	}
	if _, e := Sorted("x", offers(props(num("A", 1)))); e != api.ErrInvalid {
		t.Error(e)
	}
}

func made(t *testing.T, name string) *Trader {
	t.Helper()
	x, e := New(name)
	if e != api.OK || x.Name() != name {
		t.Fatal(e)
	}
	for _, s := range []api.Service{{Name: "thing", Props: []api.Asked{{Name: "name", Kind: 2, Must: true}}}, {Name: "printer", Base: "thing", Props: []api.Asked{{Name: "cost", Kind: 1}}}, {Name: "laser", Base: "printer", Props: []api.Asked{{Name: "cost", Kind: 1, Must: true}}}} {
		if e := x.AddType(s); e != api.OK {
			t.Fatal(e)
		}
	}
	return x
}

func TestTypes(t *testing.T) {
	x := made(t, "t")
	for i, c := range []struct {
		s    api.Service
		want api.Errno
	}{{api.Service{Name: "thing"}, api.ErrDuplicate}, {api.Service{Name: "new", Base: "nothing"}, api.ErrName}, {api.Service{Name: "new", Base: "new"}, api.ErrName}, {api.Service{Name: "new", Base: "laser", Props: []api.Asked{{Name: "cost", Kind: 1}}}, api.ErrKind}, {api.Service{Name: "new", Base: "laser", Props: []api.Asked{{Name: "name", Kind: 1, Must: true}}}, api.ErrKind}, {api.Service{Name: "New"}, api.ErrInvalid}, {api.Service{Name: "new", Base: "B"}, api.ErrInvalid}, {api.Service{Name: "new", Props: []api.Asked{{Name: "a", Kind: 4}}}, api.ErrInvalid}, {api.Service{Name: "new", Props: []api.Asked{{Name: "or", Kind: 1}}}, api.ErrInvalid}, {api.Service{Name: "new", Props: []api.Asked{{Name: "a", Kind: 1}, {Name: "a", Kind: 1}}}, api.ErrInvalid}} {
		if e := x.AddType(c.s); e != c.want {
			t.Error(i, e)
		}
	}
	if l, e := x.Type("laser"); fmt.Sprint(l) != "[{cost 1 true} {name 2 true}]" || e != api.OK {
		t.Error(l, e)
	}
	if l := x.Types(); fmt.Sprint(l) != "[laser printer thing]" {
		t.Error(l)
	}
	for i, c := range []struct {
		a, b string
		is   bool
		e    api.Errno
	}{{"laser", "thing", true, 0}, {"thing", "laser", false, 0}, {"thing", "thing", true, 0}, {"q", "thing", false, api.ErrName}, {"thing", "q", false, api.ErrName}, {"q", "Q", false, api.ErrInvalid}} {
		if is, e := x.IsA(c.a, c.b); is != c.is || e != c.e {
			t.Error(i, is, e)
		}
	}
	x.Export("laser", "o", props(num("cost", 1), word("name", "")))
	if x.DropType("printer") != api.ErrState || x.DropType("laser") != api.ErrState || x.DropType("q") != api.ErrName || x.DropType("Q") != api.ErrInvalid {
		t.Error("DropType")
	}
	x.Withdraw(1)
	if x.DropType("laser") != api.OK || x.DropType("printer") != api.OK || errno(x.Type("laser")) != api.ErrName {
		t.Error("DropType")
	}
	for i := range 99 {
		x.AddType(api.Service{Name: "n" + strconv.Itoa(i)})
	}
	if x.AddType(api.Service{Name: "more"}) != api.ErrLimit {
		t.Error("limit")
	}
}

func TestOffers(t *testing.T) {
	x := made(t, "t")
	good := props(num("cost", 5), word("name", "a"))
	for i, c := range []struct {
		kind, object string
		props        []api.Prop
		want         api.Errno
	}{{"laser", "o", good, 0}, {"q", "o", good, api.ErrName}, {"Q", "o", good, api.ErrInvalid}, {"laser", "o", props(word("name", "a")), api.ErrNone}, {"laser", "o", props(num("name", 1)), api.ErrKind}, {"printer", "o", props(word("name", "a")), 0}, {"thing", "o", props(num("more", 1), word("name", "a")), 0}, {"thing", "o", nil, api.ErrNone}, {"thing", strings.Repeat("x", 65537), good, api.ErrInvalid}, {"q", "o", props(word("name", "a"), num("cost", 1)), api.ErrInvalid}} {
		if n, e := x.Export(c.kind, c.object, c.props); e != c.want || (n > 0) != (e == api.OK) {
			t.Error(i, n, e)
		}
	}
	if l := x.Offers(); fmt.Sprint(l) != "[1 2 3]" {
		t.Error(l)
	}
	for i, c := range []struct {
		id   int
		put  []api.Prop
		gone []string
		want api.Errno
	}{{1, props(num("cost", 9)), nil, 0}, {1, nil, []string{"cost"}, api.ErrNone}, {1, props(num("cost", 2)), []string{"cost"}, 0}, {1, nil, []string{"q"}, api.ErrName}, {1, props(word("cost", "")), []string{"q"}, api.ErrName}, {1, props(word("cost", "")), nil, api.ErrKind}, {1, props(num("b", 1)), []string{"b"}, api.ErrName}, {1, props(num("b", 1)), nil, 0}, {1, nil, []string{"b", "b"}, api.ErrName}, {1, nil, []string{"b"}, 0}, {9, nil, nil, api.ErrNone}, {-1, nil, nil, api.ErrRange}, {1, nil, []string{"or"}, api.ErrInvalid}, {1, props(num("A", 1)), nil, api.ErrInvalid}} {
		if e := x.Modify(c.id, c.put, c.gone); e != c.want {
			t.Error(i, e)
		}
	}
	o, e := x.Offer(1)
	if e != api.OK || o.Type != "laser" || o.Object != "o" || fmt.Sprint(o.Props) != "[{cost 1 2  []} {name 2 0 a []}]" {
		t.Error(o, e)
	}
	o.Props[0].N = 99
	if o, _ := x.Offer(1); o.Props[0].N != 2 {
		t.Error("shared")
	}
	if errno(x.Offer(7)) != api.ErrNone || errno(x.Offer(-1)) != api.ErrRange || x.Withdraw(7) != api.ErrNone || x.Withdraw(-7) != api.ErrRange || x.Withdraw(2) != api.OK || x.Withdraw(2) != api.ErrNone {
		t.Error("Withdraw")
	}
	if n, _ := x.Export("thing", "", good); n != 4 {
		t.Error(n)
	}
	if l, e := x.WithdrawAll("printer", "cost == 2"); fmt.Sprint(l) != "[1]" || e != api.OK || fmt.Sprint(x.Offers()) != "[3 4]" {
		t.Error(l, e)
	}
	if errno(x.WithdrawAll("q", "x +")) != api.ErrSyntax || errno(x.WithdrawAll("q", "")) != api.ErrName || errno(x.WithdrawAll("Q", "x +")) != api.ErrInvalid {
		t.Error("WithdrawAll")
	}
	if l, _ := x.WithdrawAll("thing", ""); len(l) != 2 {
		t.Error(l)
	}
	for range 1000 {
		x.Export("thing", "", good)
	}
	if errno(x.Export("thing", "", good)) != api.ErrLimit {
		t.Error("limit")
	}
}

func TestQuery(t *testing.T) {
	x := made(t, "t")
	x.Export("thing", "o1", props(word("name", "a")))
	x.Export("printer", "o2", props(num("cost", 3), word("name", "b")))
	x.Export("laser", "o3", props(num("cost", 7), word("name", "c")))
	for i, c := range []struct {
		kind, constraint, preference string
		most                         int
		want                         string
		e                            api.Errno
	}{{"thing", "", "", 9, "123", 0}, {"printer", "", "", 9, "23", 0}, {"laser", "", "", 9, "3", 0}, {"thing", "cost > 2", "max cost", 9, "32", 0}, {"thing", "", "max cost", 9, "321", 0}, {"thing", "", "max cost", 2, "32", 0}, {"thing", "", "", 0, "", 0}, {"thing", "", "", -1, "", api.ErrRange}, {"thing", "(", strings.Repeat(" ", 2001), -1, "", api.ErrLong}, {"thing", strings.Repeat("(", 41) + "true" + strings.Repeat(")", 41), "min (", -1, "", api.ErrSyntax}, {"thing", "(", "min " + strings.Repeat("-", 41) + "1", -1, "", api.ErrSyntax}, {"thing", strings.Repeat("(", 41) + "true" + strings.Repeat(")", 41), "first", -1, "", api.ErrLimit}, {"thing", "", "with " + strings.Repeat("not ", 41) + "true", -1, "", api.ErrLimit}, {"q", "", "", 1, "", api.ErrName}, {"q", "", "x", -1, "", api.ErrSyntax}, {"q", "(", "", 1, "", api.ErrSyntax}, {"q", "", "", -1, "", api.ErrRange}, {"Q", "(", "", 1, "", api.ErrInvalid}} {
		if l, e := x.Query(c.kind, c.constraint, c.preference, c.most); ids(l) != c.want || e != c.e {
			t.Error(i, ids(l), e)
		}
	}
}

func TestFederated(t *testing.T) {
	var l []*Trader
	for i, name := range []string{"a", "b", "c", "d"} {
		x := made(t, name)
		if name != "a" {
			x.Export("thing", "o", props(word("name", name), num("rank", 10-i)))
		}
		l = append(l, x)
	}
	empty, _ := New("e")
	l = append(l, empty)
	link := func(i int, name, to string, follow int) {
		if e := l[i].AddLink(api.Tie{Name: name, To: to, Follow: follow}); e != api.OK {
			t.Fatal(e)
		}
	}
	link(0, "z", "b", 1)
	link(0, "m", "c", 2)
	link(0, "n", "d", 0)
	link(0, "o", "nobody", 2)
	link(1, "x", "d", 1)
	link(2, "x", "a", 2)
	link(2, "y", "c", 2)
	link(2, "z", "d", 2)
	link(4, "x", "b", 1)
	show := func(found []api.Found, asked []string, e api.Errno) string {
		s := ""
		for _, x := range found {
			s += x.Trader + strconv.Itoa(x.Offer.ID) + " "
		}
		return fmt.Sprint(s, asked, int(e))
	}
	for i, c := range []struct {
		start, preference string
		hops, most        int
		want              string
	}{{"a", "", 0, 9, "[a] 0"}, {"a", "", 1, 9, "c1 b1 [a c b] 0"}, {"a", "", 2, 9, "c1 b1 d1 [a c b d] 0"}, {"a", "", 9, 2, "c1 b1 [a c b d] 0"}, {"a", "min rank", 9, 9, "d1 c1 b1 [a c b d] 0"}, {"b", "", 9, 9, "b1 [b] 0"}, {"e", "", 1, 9, "b1 [e b] 0"}, {"d", "", 5, 5, "d1 [d] 0"}} {
		if s := show(Federated(l, c.start, "thing", "", c.preference, c.hops, c.most)); s != c.want {
			t.Errorf("%d: %s instead of %s", i, s, c.want)
		}
	}
	for i, c := range []struct {
		l                             []*Trader
		start, kind, constraint, pref string
		hops, most                    int
		want                          api.Errno
	}{{append(l, l[0]), "a", "thing", "(", "", 0, 0, api.ErrInvalid}, {append(l, nil), "a", "thing", "", "", 0, 0, api.ErrInvalid}, {l, "A", "thing", "(", "", 0, 0, api.ErrInvalid}, {l, "a", "T", "(", "", 0, 0, api.ErrInvalid}, {l, "q", "thing", "(", "", -1, 0, api.ErrSyntax}, {l, "q", "thing", "", "x", -1, 0, api.ErrSyntax}, {l, "q", "thing", "", "", -1, 0, api.ErrRange}, {l, "q", "thing", "", "", 0, -1, api.ErrRange}, {l, "q", "thing", "", "", 0, 0, api.ErrName}, {l, "a", "nothing", "", "", 0, 0, 0}} {
		if _, _, e := Federated(c.l, c.start, c.kind, c.constraint, c.pref, c.hops, c.most); e != c.want {
			t.Error(i, e)
		}
	}
}

func TestLinks(t *testing.T) {
	x := made(t, "t")
	for i, c := range []struct {
		w    api.Tie
		want api.Errno
	}{{api.Tie{Name: "b", To: "t", Follow: 2}, 0}, {api.Tie{Name: "a", To: "q"}, 0}, {api.Tie{Name: "b", To: "x"}, api.ErrDuplicate}, {api.Tie{Name: "B", To: "x"}, api.ErrInvalid}, {api.Tie{Name: "c"}, api.ErrInvalid}, {api.Tie{Name: "c", To: "x", Follow: 3}, api.ErrInvalid}, {api.Tie{Name: "c", To: "x", Follow: -1}, api.ErrInvalid}} {
		if e := x.AddLink(c.w); e != c.want {
			t.Error(i, e)
		}
	}
	if l := x.Links(); fmt.Sprint(l) != "[{a q 0} {b t 2}]" {
		t.Error(l)
	}
	if x.DropLink("q") != api.ErrName || x.DropLink("Q") != api.ErrInvalid || x.DropLink("a") != api.OK || len(x.Links()) != 1 {
		t.Error("DropLink")
	}
	for i := range 99 {
		x.AddLink(api.Tie{Name: "n" + strconv.Itoa(i), To: "t"})
	}
	if x.AddLink(api.Tie{Name: "more", To: "t"}) != api.ErrLimit {
		t.Error("limit")
	}
	var none *Trader
	for i, e := range []api.Errno{none.AddType(api.Service{Name: "a"}), none.DropType("a"), errno(none.Type("a")), errno(none.IsA("a", "a")), errno(none.Export("a", "", nil)), none.Modify(1, nil, nil), none.Withdraw(1), errno(none.WithdrawAll("a", "")), errno(none.Offer(1)), none.AddLink(api.Tie{Name: "a", To: "a"}), none.DropLink("a"), errno(none.Query("a", "", "", 1)), errno(New("A")), errno(New(""))} {
		if e != api.ErrInvalid {
			t.Error(i, e)
		}
	}
	if none.Name() != "" || none.Types() != nil || none.Offers() != nil || none.Links() != nil {
		t.Error("nil")
	}
}

func expr(s *sample.Source, deep int) string {
	if deep == 0 {
		return []string{"a", "b", "c", "3", "'x'", "true", "exist a", "7"}[s.Int(8)]
	}
	ops := []string{"or", "and", "==", "<", "~", "+", "-", "*", "/"}
	switch s.Int(4) {
	case 0:
		return "(not " + expr(s, deep-1) + ")"
	case 1:
		return "- " + []string{"a", "3", "(" + expr(s, deep-1) + ")"}[s.Int(3)]
	}
	return "(" + expr(s, deep-1) + ") " + ops[s.Int(len(ops))] + " (" + expr(s, s.Int(deep)) + ")"
}

func TestRandom(t *testing.T) {
	s := sample.New(161)
	for range 2000 {
		e := expr(s, s.Int(5))
		shown, err := Show(e)
		again, err2 := Show(shown)
		if err != api.OK || err2 != api.OK || again != shown {
			t.Fatal(e, shown, again)
		}
		var p []api.Prop
		for _, name := range []string{"a", "b", "c"} {
			switch s.Int(4) {
			case 0:
				p = append(p, num(name, s.Int(5)))
			case 1:
				p = append(p, word(name, s.Text("x", 2)))
			case 2:
				p = append(p, flag(name, s.Int(2)))
			}
		}
		v, ok, _ := Value(e, p)
		w, ok2, _ := Value(shown, p)
		if !reflect.DeepEqual(v, w) || ok != ok2 {
			t.Fatal(e, shown, v, w)
		}
		x := made(t, "t")
		want := ""
		for i := range 5 {
			q := append(slices.Clone(p), word("name", strconv.Itoa(i)))
			if n, er := x.Export("thing", "", q); er == api.OK {
				if fits, _ := Fits(e, q); fits {
					want += strconv.Itoa(n)
				}
			}
		}
		if l, _ := x.Query("thing", e, "", 9); ids(l) != want {
			t.Fatal(e, ids(l), want)
		}
	}
}
