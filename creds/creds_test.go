package creds

import (
	"fmt"
	"reflect"
	"slices"
	"strconv"
	"strings"
	"testing"

	"intermede/api"
	"intermede/sample"
)

func text[T any](x T, e api.Errno) string {
	if e != api.OK {
		return fmt.Sprint("!", int(e))
	}
	return fmt.Sprint(x)
}

type step struct{ got, want string }

func steps(t *testing.T, l []step) {
	t.Helper()
	for i, s := range l {
		if s.got != s.want {
			t.Errorf("%d: %q instead of %q", i, s.got, s.want)
		}
	}
}

// set splits a text at blanks.
func set(s string) []string { return strings.Fields(s) }

// many returns n rights that hold nothing of each other, ascending.
func many(n int) []string {
	var l []string
	for i := range n {
		l = append(l, "r"+strconv.Itoa(100+i))
	}
	return l
}

func TestNames(t *testing.T) {
	for s, want := range map[string]bool{"a": true, "a1": true, "": false, "1a": false, "A": false, "a_b": false, "a.b": false, strings.Repeat("a", 32): true, strings.Repeat("a", 33): false, "a ": false} {
		if Principal(s) != want {
			t.Error("principal", s)
		}
	}
	for s, want := range map[string]bool{"a": true, "a.b": true, "1": true, "a.1.b2": true, "*": true, "": false, ".": false, "a.": false, ".a": false, "a..b": false, "A": false, "a.*": false, "**": false, "a_b": false, strings.Repeat("a.", 15) + "ab": true, strings.Repeat("a.", 16) + "a": false, "a b": false} {
		if Right(s) != want {
			t.Error("right", s)
		}
	}
}

func TestRights(t *testing.T) {
	steps(t, []step{
		{text(Holds("bank", "bank.read")), "true"}, {text(Holds("bank", "bank")), "true"}, {text(Holds("bank", "banks")), "false"}, {text(Holds("bank.read", "bank")), "false"}, {text(Holds("*", "a")), "true"}, {text(Holds("*", "*")), "true"}, {text(Holds("a", "*")), "false"}, {text(Holds("a", "")), "!1"}, {text(Holds("", "a")), "!1"}, {text(Holds("a.b", "a.b.c.d")), "true"},
		{text(Rights(set("b a b"))), "[a b]"}, {text(Rights(set("a.b a c.d c.e a.c.d"))), "[a c.d c.e]"}, {text(Rights(set("b * a"))), "[*]"}, {text(Rights(set("a.b a1 a"))), "[a a1]"}, {text(Rights(nil)), "!1"}, {text(Rights(set("a A"))), "!1"}, {text(len(many(20)), errno(Rights(many(20)))), "20"}, {text(Rights(many(21))), "!1"}, {text(len(many(20)), errno(Rights(append(many(20), many(20)...)))), "20"},
		{text(Within(set("a.b c"), set("a c"))), "true"}, {text(Within(set("a c"), set("a.b c"))), "false"}, {text(Within(set("a"), set("*"))), "true"}, {text(Within(set("b a"), set("a b"))), "!1"}, {text(Within(set("a"), nil)), "!1"}, {text(Within(nil, set("a"))), "!1"}, {text(Within(set("a a.b"), set("a"))), "!1"}, {text(Within(set("a a"), set("a"))), "!1"}, {text(Within(set("* a"), set("a"))), "!1"}, {text(Within(many(21), set("a"))), "!1"}, {text(Within(many(20), set("*"))), "true"}, {text(Within(set("a a1 a.b"), set("*"))), "!1"},
		{text(Meet(set("a.b c d"), set("a c.d e"))), "[a.b c.d]"}, {text(Meet(set("*"), set("a b"))), "[a b]"}, {text(Meet(set("a"), set("b"))), "!8"}, {text(Meet(set("b a"), set("b"))), "!1"}, {text(Meet(set("b"), nil)), "!1"},
		{text(Allows(set("a b.c"), "b.c.d")), "true"}, {text(Allows(set("a b.c"), "b")), "false"}, {text(Allows(set("b a"), "b")), "!1"}, {text(Allows(set("a"), "B")), "!1"}, {text(Allows(set("a"), "*")), "false"},
	})
}

func errno[T any](_ T, e api.Errno) api.Errno { return e }

// right returns any right of few words.
func right(r *sample.Source) string {
	if r.Int(20) == 0 {
		return "*"
	}
	s := "x"
	for range r.Int(4) {
		s += "." + string(rune('a'+r.Int(2)))
	}
	return s[r.Int(2)*min(2, len(s)-1):]
}

func TestMeet(t *testing.T) {
	r := sample.New(28)
	held := func(a, b string) bool { ok, _ := Holds(a, b); return ok }
	for range 2000 {
		var l [2][]string
		for i := range l {
			for range 1 + r.Int(5) {
				l[i] = append(l[i], right(r))
			}
			var e api.Errno
			if l[i], e = Rights(l[i]); e != api.OK {
				t.Fatal(l[i], e)
			}
		}
		a, b := l[0], l[1]
		m, e := Meet(a, b)
		for range 20 {
			x, y, z := right(r), right(r), right(r)
			both := allows(a, x) && allows(b, x)
			if both != allows(m, x) || both && e != api.OK {
				t.Fatal(a, b, m, x)
			}
			if held(x, y) && held(y, x) && x != y || held(x, y) && held(y, z) && !held(x, z) || !held(x, x) {
				t.Fatal("no order", x, y, z)
			}
		}
		if e == api.OK {
			inA, _ := Within(m, a)
			inB, _ := Within(m, b)
			if !inA || !inB {
				t.Fatal(a, b, m)
			}
		}
	}
}

func keys(names ...string) []api.Key {
	var l []api.Key
	for i, name := range names {
		l = append(l, api.Key{Name: name, Key: i + 1})
	}
	return l
}

func claim(from, to, rights string, since, until, deep int) api.Claim {
	return api.Claim{From: from, To: to, Rights: set(rights), Since: since, Until: until, Deep: deep}
}

func TestClaims(t *testing.T) {
	good := claim("root", "a", "bank read", 0, api.MaxTime, 20)
	for i, c := range []struct {
		change func(*api.Claim)
		want   bool
	}{
		{func(c *api.Claim) {}, true}, {func(c *api.Claim) { c.Seal = 5 }, true}, {func(c *api.Claim) { c.From = "Root" }, false}, {func(c *api.Claim) { c.To = "" }, false}, {func(c *api.Claim) { c.To = "root" }, true}, {func(c *api.Claim) { c.Rights = nil }, false}, {func(c *api.Claim) { c.Rights = set("b a") }, false}, {func(c *api.Claim) { c.Rights = many(20) }, true}, {func(c *api.Claim) { c.Rights = many(21) }, false}, {func(c *api.Claim) { c.Since = -1 }, false}, {func(c *api.Claim) { c.Since = api.MaxTime }, false}, {func(c *api.Claim) { c.Since = api.MaxTime - 1 }, true}, {func(c *api.Claim) { c.Until = api.MaxTime + 1 }, false}, {func(c *api.Claim) { c.Until = 0 }, false}, {func(c *api.Claim) { c.Deep = -1 }, false}, {func(c *api.Claim) { c.Deep = 21 }, false}, {func(c *api.Claim) { c.Deep = 0 }, true},
	} {
		x := good
		c.change(&x)
		_, e := Text(x)
		_, e2 := Sign(keys("root"), x)
		if ValidClaim(x) != c.want || (e == api.OK) != c.want || (e2 == api.OK) != c.want || !c.want && e != api.ErrInvalid {
			t.Error(i, e, e2)
		}
	}
	steps(t, []step{{text(Text(claim("root", "a", "bank.read x", 3, 50, 2))), "root a bank.read,x 3 50 2"}})
}

func TestSeal(t *testing.T) {
	// The hash of "1  1", reckoned apart.
	h := uint64(14695981039346656037)
	for _, c := range []byte("1  1") {
		h = (h ^ uint64(c)) * 1099511628211
	}
	steps(t, []step{
		{text(Seal(1, "")), strconv.FormatUint(h, 10)}, {text(Seal(0, "")), "!7"}, {text(Seal(-1, "")), "!7"}, {text(Seal(1<<62+1, "")), "!7"}, {text(Seal(1<<62, "x")), fmt.Sprint(sealOf(1<<62, "x"))}, {text(Seal(1, strings.Repeat("x", api.MaxText+1))), "!3"}, {text(Seal(0, strings.Repeat("x", api.MaxText+1))), "!7"}, {text(0, errno(Seal(1, strings.Repeat("x", api.MaxText)))), "0"},
	})
	c := claim("root", "a", "x", 0, 9, 1)
	s, _ := Seal(1, "root a x 0 9 1")
	signed, e := Sign(keys("root"), c)
	if e != api.OK || signed.Seal != s || c.Seal != 0 {
		t.Error(signed, e)
	}
	signed.Rights[0] = "y"
	if c.Rights[0] != "x" {
		t.Error("memory is shared")
	}
	var much []api.Key
	for i := range 101 {
		much = append(much, api.Key{Name: "k" + strconv.Itoa(i), Key: 1})
	}
	for i, x := range []struct {
		keys []api.Key
		want api.Errno
	}{{keys("a"), api.ErrName}, {nil, api.ErrName}, {keys("root", "root"), api.ErrInvalid}, {[]api.Key{{Name: "root"}}, api.ErrInvalid}, {[]api.Key{{Name: "root", Key: 1<<62 + 1}}, api.ErrInvalid}, {[]api.Key{{Name: "Root", Key: 1}}, api.ErrInvalid}, {much, api.ErrInvalid}, {much[:100], api.ErrName}} {
		if _, e := Sign(x.keys, c); e != x.want {
			t.Error(i, e)
		}
	}
}

// chained returns a chain: root gives a, a gives b, and so on.
func chained(t *testing.T, ring []api.Key, rights ...string) []api.Claim {
	t.Helper()
	first, e := Sign(ring, claim("root", "a", rights[0], 10, 100, 20))
	l := []api.Claim{first}
	for i, x := range rights[1:] {
		if e == api.OK {
			l, e = Delegate(ring, l, string(rune('b'+i)), set(x), 10+i, 100-i)
		}
	}
	if e != api.OK {
		t.Fatal(e)
	}
	return l
}

func TestDelegate(t *testing.T) {
	ring := keys("root", "a", "b", "c")
	l := chained(t, ring, "bank", "bank.read")
	if l[1].From != "a" || l[1].To != "b" || l[1].Deep != 19 || l[1].Since != 10 || l[1].Until != 100 {
		t.Error(l)
	}
	show := func(l []api.Claim, e api.Errno) string { return text(len(l), e) }
	zero := slices.Clone(l)
	zero[1].Deep = 0
	long := slices.Repeat(l[:1], 20)
	steps(t, []step{
		{show(Delegate(ring, l, "x", set("bank.read.it"), 0, 1)), "3"}, {show(Delegate(ring, nil, "x", set("a"), 0, 1)), "!1"}, {show(Delegate(ring, l, "X", set("bank.read"), 0, 1)), "!1"}, {show(Delegate(ring, l, "x", nil, 0, 1)), "!1"}, {show(Delegate(ring, append(long, l[0]), "x", set("bank"), 0, 1)), "!1"}, {show(Delegate(keys("b", "b"), l, "x", set("bank"), 0, 1)), "!1"}, {show(Delegate(ring, []api.Claim{{}}, "x", set("bank"), 0, 1)), "!1"},
		{show(Delegate(nil, l, "x", set("bank.read"), -1, 1)), "!7"}, {show(Delegate(nil, l, "x", set("bank.read"), 1, 1)), "!7"}, {show(Delegate(nil, l, "x", set("bank.read"), 0, api.MaxTime+1)), "!7"}, {show(Delegate(keys("a"), zero, "x", set("bank"), 0, 1)), "!5"}, {show(Delegate(ring, zero, "x", set("bank"), 0, 1)), "!9"}, {show(Delegate(ring, l, "x", set("bank"), 0, 1)), "!10"}, {show(Delegate(ring, long, "x", set("cash"), 0, 1)), "!10"}, {show(Delegate(ring, long, "x", set("bank"), 0, 1)), "!4"}, {show(Delegate(ring, long[:19], "x", set("bank"), 0, 1)), "20"},
		{show(Shorten(l, 1)), "1"}, {show(Shorten(l, 2)), "2"}, {show(Shorten(l, 0)), "!7"}, {show(Shorten(l, 3)), "!7"}, {show(Shorten(nil, 0)), "!1"}, {show(Shorten([]api.Claim{{}}, 1)), "!1"},
	})
	short, _ := Shorten(l, 2)
	short[0].Rights[0] = "x"
	if l[0].Rights[0] != "bank" {
		t.Error("memory is shared")
	}
}

func checked(keys []api.Key, trusted string, chain []api.Claim, time int) string {
	to, rights, bad, e := Check(keys, set(trusted), chain, time)
	if e != api.OK && (to != "" || rights != nil) {
		return "something with an error"
	}
	return fmt.Sprint(to, rights) + fmt.Sprint(bad, " ", int(e))
}

func TestCheck(t *testing.T) {
	ring := keys("root", "a", "b", "c")
	l := chained(t, ring, "bank", "bank.read bank.write", "bank.read")
	change := func(i int, f func(*api.Claim), sealed bool) []api.Claim {
		x := cloneChain(l)
		f(&x[i])
		if sealed {
			x[i], _ = Sign(ring, x[i])
		}
		return x
	}
	steps(t, []step{
		{checked(ring, "root", l, 50), "c[bank.read]-1 0"}, {checked(ring, "x root", l[:1], 10), "a[bank]-1 0"}, {checked(ring, "root", l[:1], 9), "[]0 16"}, {checked(ring, "root", l[:1], 99), "a[bank]-1 0"}, {checked(ring, "root", l[:1], 100), "[]0 16"}, {checked(ring, "root", l, 10), "[]2 16"}, {checked(ring, "root", l, 99), "[]2 16"},
		{checked(ring, "a", l, 50), "[]0 5"}, {checked(ring, "", l, 50), "[]0 5"}, {checked(keys("a", "b"), "root", l, 50), "[]0 5"}, {checked(keys("root", "a"), "root", l, 50), "[]2 5"}, {checked(keys("a", "root", "b"), "root", l, 50), "[]0 12"},
		{checked(ring, "root", change(1, func(c *api.Claim) { c.Rights[1] = "bank.x" }, false), 50), "[]1 12"}, {checked(ring, "root", change(1, func(c *api.Claim) { c.To = "c" }, false), 50), "[]1 12"}, {checked(ring, "root", change(1, func(c *api.Claim) { c.Until++ }, false), 50), "[]1 12"}, {checked(ring, "root", change(1, func(c *api.Claim) { c.Seal++ }, false), 50), "[]1 12"},
		{checked(ring, "root", change(1, func(c *api.Claim) { c.From = "b" }, true), 50), "[]1 10"}, {checked(ring, "root", change(1, func(c *api.Claim) { c.Rights = set("cash") }, true), 50), "[]1 10"}, {checked(ring, "root", change(1, func(c *api.Claim) { c.Rights = set("bank.x") }, true), 50), "[]2 10"}, {checked(ring, "root", change(1, func(c *api.Claim) { c.Deep = 20 }, true), 50), "[]1 9"}, {checked(ring, "root", change(2, func(c *api.Claim) { c.Deep = 0 }, true), 50), "c[bank.read]-1 0"}, {checked(ring, "root", change(1, func(c *api.Claim) { c.Deep = 0 }, true), 50), "[]2 9"}, {checked(ring, "root", change(0, func(c *api.Claim) { c.Rights = set("cash") }, false), 5), "[]0 12"}, {checked(ring, "root", change(1, func(c *api.Claim) { c.Deep, c.Until = 20, 20 }, true), 50), "[]1 9"},
		{checked(ring, "root", nil, 50), "[]0 1"}, {checked(ring, "Root", l, -1), "[]0 1"}, {checked(keys("a", "a"), "root", l, -1), "[]0 1"}, {checked(ring, "root", []api.Claim{{}}, 1), "[]0 1"}, {checked(ring, strings.Repeat("root ", 101), l, 50), "[]0 1"}, {checked(ring, strings.Repeat("root ", 100), l, 50), "c[bank.read]-1 0"}, {checked(ring, "root", slices.Repeat(l[:1], 21), 50), "[]0 1"}, {checked(ring, "root", slices.Repeat(l[:1], 20), 50), "[]1 10"}, {checked(ring, "a", l, -1), "[]0 7"}, {checked(ring, "a", l, api.MaxTime+1), "[]0 7"},
		{text(May(ring, set("root"), l, 50, "c", "bank.read.it")), "true"}, {text(May(ring, set("root"), l, 50, "c", "bank.write")), "false"}, {text(May(ring, set("root"), l, 50, "b", "bank.read")), "false"}, {text(May(ring, set("root"), l, 5, "c", "bank.read")), "false"}, {text(May(ring, set("a"), l, 50, "c", "bank.read")), "false"}, {text(May(ring, set("root"), l, 50, "C", "bank.read")), "!1"}, {text(May(ring, set("root"), l, -1, "c", "")), "!1"}, {text(May(ring, set("root"), nil, -1, "c", "x")), "!1"}, {text(May(ring, set("root"), l, -1, "c", "x")), "!7"},
	})
}

func TestExample(t *testing.T) {
	ring := keys("root", "a", "b", "c")
	first, _ := Sign(ring, claim("root", "a", "bank", 0, 9, 1))
	l, e := Delegate(ring, []api.Claim{first}, "b", set("bank.read"), 0, 9)
	if e != api.OK {
		t.Fatal(e)
	}
	steps(t, []step{{text(May(ring, set("root"), l, 5, "b", "bank.read")), "true"}, {text(0, errno(Delegate(ring, l, "c", set("bank.read"), 0, 9))), "!9"}})
	l[1].Rights[0] = "bank.write"
	steps(t, []step{{checked(ring, "root", l, 5), "[]1 12"}})
}

func TestJoin(t *testing.T) {
	ring := keys("root", "a", "b", "c")
	sign := func(from, to, rights string) api.Claim {
		c, _ := Sign(ring, claim(from, to, rights, 0, 9, 3))
		return c
	}
	join := func(who string, time int, l ...[]api.Claim) string {
		return text(Join(ring, set("root"), l, time, who))
	}
	one := func(c api.Claim) []api.Claim { return []api.Claim{c} }
	bad := one(sign("root", "a", "all"))
	bad[0].Seal++
	steps(t, []step{
		{join("a", 5, one(sign("root", "a", "x.y z")), one(sign("root", "a", "x")), one(sign("root", "b", "q")), bad, one(sign("c", "a", "p"))), "[x z]"}, {join("a", 5, bad), "!8"}, {join("a", 5), "!8"}, {join("a", 9, one(sign("root", "a", "x"))), "!8"}, {join("A", 5), "!1"}, {join("a", 5, nil), "!1"}, {join("a", -1), "!7"}, {join("a", 5, slices.Repeat([][]api.Claim{bad}, 101)...), "!1"}, {join("a", 5, slices.Repeat([][]api.Claim{bad}, 100)...), "!8"}, {join("a", 5, bad, one(api.Claim{})), "!1"},
		{join("a", 5, one(sign("root", "a", strings.Join(many(20), " "))), one(sign("root", "a", "a b r200"))), fmt.Sprint(append(set("a b"), many(18)...))},
	})
}

func parsed(s string) string {
	l, line, e := Parse(s)
	if e != api.OK && l != nil {
		return "a chain with an error"
	}
	return fmt.Sprint(len(l), " ", line, " ", int(e))
}

func TestParse(t *testing.T) {
	line := "root a x,y 0 9 1 5\n"
	steps(t, []step{
		{parsed(line), "1 0 0"}, {parsed(line + line), "2 0 0"}, {parsed(""), "0 0 2"}, {parsed("\n"), "0 0 2"}, {parsed(line + "x"), "0 1 2"}, {parsed(line + line[:18]), "0 1 2"}, {parsed(line[:18]), "0 0 2"}, {parsed(line + "\n"), "0 1 2"}, {parsed(strings.Repeat(line, 20)), "20 0 0"}, {parsed(strings.Repeat(line, 21)), "0 20 2"}, {parsed(strings.Repeat("x", api.MaxText+1)), "0 0 3"}, {parsed(strings.Repeat("x", api.MaxText)), "0 0 2"},
		{parsed("root a y,x 0 9 1 5\n"), "0 0 2"}, {parsed("root a x,y 00 9 1 5\n"), "0 0 2"}, {parsed("root a x,y 0 9 1 05\n"), "0 0 2"}, {parsed("root a x,y 0 9 1 +5\n"), "0 0 2"}, {parsed("root a x,y 0 9 1 18446744073709551615\n"), "1 0 0"}, {parsed("root a x,y 0 9 1 18446744073709551616\n"), "0 0 2"}, {parsed("root a x,y 0 9 1\n"), "0 0 2"}, {parsed("root a x,y 9 9 1 5\n"), "0 0 2"}, {parsed("root  a x,y 0 9 1 5\n"), "0 0 2"}, {parsed("root a x,y 0 9 1 5 \n"), "0 0 2"}, {parsed("root a x,y 0 9 1 5\r\n"), "0 0 2"}, {parsed("root a  0 9 1 5\n"), "0 0 2"}, {parsed("root a x, 0 9 1 5\n"), "0 0 2"},
	})
	if s := Format([]api.Claim{claim("root", "a", "x", 0, 9, 1), {}}); s != "" {
		t.Error(s)
	}
	if s := Format(nil); s != "" {
		t.Error(s)
	}
	if s := Format(slices.Repeat([]api.Claim{claim("root", "a", "x", 0, 9, 1)}, 21)); s != "" {
		t.Error(s)
	}
}

// anyChain returns a chain whose statements may be wrong in a few ways.
func anyChain(r *sample.Source, ring []api.Key) []api.Claim {
	var l []api.Claim
	from := "root"
	rights := set("*")
	for i := range 1 + r.Int(4) {
		to := string(rune('a' + r.Int(3)))
		some, e := Rights([]string{right(r), right(r)})
		if more, e2 := Meet(rights, some); r.Int(4) > 0 && e == api.OK && e2 == api.OK {
			some = more
		}
		since := r.Int(5)
		c := api.Claim{From: from, To: to, Rights: some, Since: since, Until: since + 1 + r.Int(10), Deep: max(0, 6-i-r.Int(2))}
		c, _ = Sign(ring, c)
		if r.Int(15) == 0 {
			c.Seal ^= 1
		}
		l = append(l, c)
		from, rights = to, some
		if r.Int(15) == 0 {
			from = "a"
		}
	}
	return l
}

func TestPromises(t *testing.T) {
	r := sample.New(280)
	ring := keys("root", "a", "b", "c")
	good := 0
	for range 3000 {
		l := anyChain(r, ring)
		back, _, e := Parse(Format(l))
		if e != api.OK || !reflect.DeepEqual(back, l) {
			t.Fatal(l, back)
		}
		time := r.Int(14)
		_, rights, bad, e := Check(ring, set("root"), l, time)
		for n := 1; n <= len(l); n++ {
			short, _ := Shorten(l, n)
			_, _, b, _ := Check(ring, set("root"), short, time)
			if (bad < 0 || bad >= n) != (b < 0) || b >= 0 && b != bad {
				t.Fatal("a beginning", l, n, bad, b)
			}
		}
		if e != api.OK {
			continue
		}
		good++
		for _, c := range l {
			if in, _ := Within(rights, c.Rights); !in || time < c.Since || time >= c.Until {
				t.Fatal("more than it may", l)
			}
		}
		since := r.Int(10)
		more, e := Delegate(ring, l, "c", rights[:1], since, since+5)
		for at := range 16 {
			_, _, was, _ := Check(ring, set("root"), l, at)
			_, _, is, _ := Check(ring, set("root"), more, at)
			if e == api.OK && (is < 0) != (was < 0 && at >= since && at < since+5) {
				t.Fatal("delegated", more, at, was, is)
			}
		}
		changed := cloneChain(l)
		i := r.Int(len(l))
		changed[i].Deep++
		if _, _, bad, e := Check(ring, set("root"), changed, time); e != api.ErrData || bad != i {
			t.Fatal("changed", changed, bad, e)
		}
	}
	if good < 100 {
		t.Error(good)
	}
}
