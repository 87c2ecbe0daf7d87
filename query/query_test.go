package query

import (
	"fmt"
	"reflect"
	"slices"
	"strconv"
	"strings"
	"testing"

	"intermede/api"
	"intermede/sample"
)

type step struct{ got, want string }

func steps(t *testing.T, l []step) {
	t.Helper()
	for i, s := range l {
		if s.got != s.want {
			t.Errorf("%d: %q instead of %q", i, s.got, s.want)
		}
	}
}

func text[T any](x T, e api.Errno) string {
	if e != api.OK {
		return fmt.Sprint("!", int(e))
	}
	return fmt.Sprint(x)
}

func code(e api.Errno) string { return strconv.Itoa(int(e)) }

// field reads a short form: `NAME=VALUE`, the value as the language writes it.
func field(s string) api.Prop {
	name, shown, _ := strings.Cut(s, "=")
	v, ok, e := Value(shown, nil)
	if !ok || e != api.OK {
		panic(s)
	}
	v.Name = name
	return v
}

func row(s string) []api.Prop {
	var l []api.Prop
	for _, word := range strings.Fields(s) {
		l = append(l, field(word))
	}
	return l
}

func show(r []api.Prop) string {
	var words []string
	for _, p := range r {
		words = append(words, p.Name+"="+showValue(valueOf(p)))
	}
	return strings.Join(words, " ")
}

func shown(l [][]api.Prop, e api.Errno) string {
	if e != api.OK {
		if l != nil {
			return "rows with an error"
		}
		return "!" + code(e)
	}
	var words []string
	for _, r := range l {
		words = append(words, show(r))
	}
	return strings.Join(words, "; ")
}

// set returns a collection of rows that are told by a text, with `; ` between them.
func set(t *testing.T, sort int, key, rows string) *Set {
	t.Helper()
	s, e := New(sort, strings.Fields(key))
	if e != api.OK {
		t.Fatal(e)
	}
	for _, r := range strings.Split(rows, "; ") {
		if rows == "" {
			break
		}
		if _, e := s.Put(row(r)); e != api.OK {
			t.Fatal(r, e)
		}
	}
	return s
}

func (s *Set) shown() string { return shown(s.Rows(), api.OK) }

func TestRows(t *testing.T) {
	long := strings.Repeat("x", api.MaxText)
	var many []api.Prop
	for i := range 21 {
		many = append(many, api.Prop{Name: "n" + strconv.Itoa(100+i), Kind: 1})
	}
	for i, c := range []struct {
		r    []api.Prop
		want bool
	}{
		{nil, true}, {many[:20], true}, {many, false}, {row("a=1 b='x' c=true"), true}, {row("b=1 a=1"), false}, {row("a=1 a=1"), false}, {[]api.Prop{{Name: "a_9", Kind: 1, N: 1e15}}, true}, {[]api.Prop{{Name: "from", Kind: 1, N: -1e15}}, true}, {[]api.Prop{{Name: "a", Kind: 1, N: 1e15 + 1}}, false}, {[]api.Prop{{Name: "a", Kind: 1, N: -1e15 - 1}}, false}, {[]api.Prop{{Name: "a", Kind: 1, S: "x"}}, false}, {[]api.Prop{{Name: "a", Kind: 2, N: 1}}, false}, {[]api.Prop{{Name: "a", Kind: 2, S: long}}, true}, {[]api.Prop{{Name: "a", Kind: 3, N: 2}}, false}, {[]api.Prop{{Name: "a", Kind: 3, N: 1, S: "x"}}, false}, {[]api.Prop{{Name: "a", Kind: 4}}, false}, {[]api.Prop{{Name: "a"}}, false}, {[]api.Prop{{Name: "a", Kind: -1}}, false}, {[]api.Prop{{Name: "a", Kind: 1, L: []int{1}}}, false}, {[]api.Prop{{Name: "a", Kind: 1, L: []int{}}}, true},
		{[]api.Prop{{Name: "", Kind: 1}}, false}, {[]api.Prop{{Name: "A", Kind: 1}}, false}, {[]api.Prop{{Name: "_", Kind: 1}}, false}, {[]api.Prop{{Name: "1", Kind: 1}}, false}, {[]api.Prop{{Name: "a b", Kind: 1}}, false}, {[]api.Prop{{Name: long[:32], Kind: 1}}, true}, {[]api.Prop{{Name: long[:33], Kind: 1}}, false},
	} {
		s, _ := New(aList, nil)
		_, e := s.Put(c.r)
		e2 := s.PutAt(-1, c.r)
		e3 := s.Replace(9, c.r)
		_, _, e4 := Value("", c.r)
		if ValidRow(c.r) != c.want || (e == api.OK) != c.want || !c.want && (e != api.ErrInvalid || e2 != e || e3 != e || e4 != e || s.Count(c.r) != 0) || c.want && (e2 != api.ErrRange || e3 != api.ErrRange || e4 != api.ErrSyntax) {
			t.Error(i, e, e2, e3, e4)
		}
	}
	l := []string{"", "a=-5", "a=3", "a=3 b=1", "a=3 b=2", "a=3 c=0", "a=20", "a=''", "a='20'", "a='3'", "a='3x'", "a=false", "a=true", "b=0"}
	for i, x := range l {
		for j, y := range l {
			c := CompareRows(row(x), row(y))
			if (c < 0) != (i < j) || (c > 0) != (i > j) || c < -1 || c > 1 {
				t.Error(x, y, c)
			}
		}
	}
	if CompareRows(row("b=1 a=1"), nil) != 0 || CompareRows(row("a=1"), many) != 0 {
		t.Error("not valid")
	}
}

func TestNew(t *testing.T) {
	for i, c := range []struct {
		sort int
		key  string
		want api.Errno
	}{
		{1, "", api.OK}, {2, "", api.OK}, {3, "a", api.OK}, {3, "b a", api.OK}, {3, "a b c d e", api.OK}, {3, "a b c d e f", api.ErrInvalid}, {3, "", api.ErrInvalid}, {1, "a", api.ErrInvalid}, {2, "a", api.ErrInvalid}, {0, "", api.ErrInvalid}, {4, "", api.ErrInvalid}, {3, "A", api.ErrInvalid}, {3, "a a", api.ErrInvalid},
	} {
		s, e := New(c.sort, strings.Fields(c.key))
		if e != c.want || (s == nil) != (e != api.OK) || s.Len() != 0 {
			t.Error(i, e)
		}
	}
}

func TestList(t *testing.T) {
	s := set(t, aList, "", "a=2; a=1; a=2; b=1")
	steps(t, []step{
		{text(s.Put(row("a=0"))), "4"}, {code(s.PutAt(0, row("c=1"))), "0"}, {code(s.PutAt(6, row("d=1"))), "0"}, {code(s.PutAt(8, row("d=1"))), "7"}, {code(s.PutAt(-1, row("d=1"))), "7"}, {s.shown(), "c=1; a=2; a=1; a=2; b=1; a=0; d=1"}, {code(s.Replace(2, row("a=9"))), "0"}, {code(s.Replace(7, row("a=9"))), "7"}, {code(s.Replace(-1, row("a=9"))), "7"}, {show1(s.Take(1)), "a=2"}, {show1(s.Take(6)), "!7"}, {show1(s.Take(-1)), "!7"}, {s.shown(), "c=1; a=9; a=2; b=1; a=0; d=1"}, {text(s.Find(row("a=9"))), "!10"}, {text(s.Count(row("a=2")), api.OK), "1"}, {text(s.Count(row("a=7")), api.OK), "0"}, {text(s.Len(), api.OK), "6"},
	})
}

func show1(r []api.Prop, e api.Errno) string {
	if e != api.OK {
		return text(0, e)
	}
	return show(r)
}

func TestBag(t *testing.T) {
	s := set(t, aBag, "", "a=2; a=1; a=2; b=1; ; a='x'")
	steps(t, []step{
		{s.shown(), "; a=1; a=2; a=2; a='x'; b=1"}, {text(s.Put(row("a=2"))), "4"}, {text(s.Put(nil)), "1"}, {code(s.PutAt(0, row("a=0"))), "10"}, {code(s.PutAt(99, row("a=0"))), "7"}, {text(s.Count(row("a=2")), api.OK), "3"}, {text(s.Count(nil), api.OK), "2"}, {code(s.Replace(0, row("c=0"))), "0"}, {s.shown(), "; a=1; a=2; a=2; a=2; a='x'; b=1; c=0"}, {text(s.Find(row("a=2"))), "!10"}, {show1(s.Take(0)), ""}, {s.shown(), "a=1; a=2; a=2; a=2; a='x'; b=1; c=0"},
	})
}

func TestKeyed(t *testing.T) {
	s := set(t, keyed, "b a", "a=2 b=1; a=1 b=2; a=1 b=1 c=5; a='x' b=1; a=false b=0")
	steps(t, []step{
		{s.shown(), "a=false b=0; a=1 b=1 c=5; a=2 b=1; a='x' b=1; a=1 b=2"}, {text(s.Put(row("a=2 b=1 d=1"))), "!6"}, {text(s.Put(row("a=2"))), "!10"}, {text(s.Put(row("a=3 b=1"))), "3"}, {code(s.PutAt(0, row("a=7 b=7"))), "10"},
		{text(s.Find(row("a=1 b=1"))), "1"}, {text(s.Find([]api.Prop{field("b=1"), field("a=1")})), "1"}, {text(s.Find(row("a=1 b=9"))), "!8"}, {text(s.Find(row("a=1"))), "!10"}, {text(s.Find(row("a=1 b=1 c=5"))), "!10"}, {text(s.Find(row("a=1 c=1"))), "!10"}, {text(s.Find(nil)), "!10"}, {text(s.Find([]api.Prop{{Name: "a"}})), "!1"}, {text(s.Find([]api.Prop{{Name: "a", Kind: 1, L: []int{1}}})), "!1"}, {text(s.Find(row("a=1 a=1"))), "!1"},
		{code(s.Replace(1, row("a=1 b=1 c=6"))), "0"}, {code(s.Replace(1, row("a=2 b=1"))), "6"}, {code(s.Replace(1, row("a=2"))), "10"}, {code(s.Replace(6, row("a=2"))), "7"}, {s.shown(), "a=false b=0; a=1 b=1 c=6; a=2 b=1; a=3 b=1; a='x' b=1; a=1 b=2"}, {code(s.Replace(1, row("a=9 b=9"))), "0"}, {s.shown(), "a=false b=0; a=2 b=1; a=3 b=1; a='x' b=1; a=1 b=2; a=9 b=9"}, {show1(s.Take(1)), "a=2 b=1"}, {text(s.Count(row("a=3 b=1")), api.OK), "1"},
	})
}

func TestLimits(t *testing.T) {
	for sort, key := range map[int]string{aList: "", aBag: "", keyed: "a"} {
		s := set(t, sort, key, "")
		for i := range 1000 {
			if _, e := s.Put([]api.Prop{{Name: "a", Kind: 1, N: i}}); e != api.OK {
				t.Fatal(e)
			}
		}
		want := "4"
		if sort != aList {
			want = "10"
		}
		steps(t, []step{{text(s.Put(row("a=-1"))), "!4"}, {code(s.PutAt(0, row("a=-1"))), want}, {code(s.Replace(0, row("a=-1"))), "0"}, {text(s.Len(), api.OK), "1000"}})
		one := set(t, aList, "", "a=1000000")
		if _, e := Union(s, one); e != api.ErrLimit {
			t.Error(e)
		}
		if u, e := Union(s, s); (e == api.OK) != (sort == keyed) || e == api.OK && u.Len() != 1000 {
			t.Error(e)
		}
		if m, e := Minus(s, s); e != api.OK || m.Len() != 0 {
			t.Error(e)
		}
	}
}

func TestMemory(t *testing.T) {
	list := []int{7}
	r := []api.Prop{{Name: "a", Kind: 1, N: 1, L: list[:0]}, {Name: "b", Kind: 2, S: "x"}}
	s := set(t, aList, "", "")
	s.Put(r)
	r[0].N = 9
	it, _ := s.Iterator()
	next, _ := it.Next()
	rows := s.Rows()
	told, _ := Run("select * from t", []string{"t"}, []*Set{s})
	for _, l := range [][]api.Prop{next, rows[0], told[0]} {
		l[0].N = 8
		if l[0].L = append(l[0].L, 5); list[0] != 7 {
			t.Error("a list is shared")
		}
	}
	if s.shown() != "a=1 b='x'" {
		t.Error("memory is shared", s.shown())
	}
	u, _ := Union(s, s)
	u.rows[0][0].N = 5
	u.rows[1][0].N = 6
	if s.shown() != "a=1 b='x'" {
		t.Error("memory is shared", s.shown())
	}
	key := []string{"a"}
	k, _ := New(keyed, key)
	key[0] = "b"
	if _, e := k.Put(row("a=1")); e != api.OK {
		t.Error("a key is shared")
	}
}

func TestNil(t *testing.T) {
	var s *Set
	var it *Iterator
	_, e1 := s.Put(nil)
	_, e2 := s.Take(-1)
	_, e3 := s.Find(nil)
	_, e4 := s.Iterator()
	_, e5 := it.Next()
	_, e6 := Union(s, &Set{})
	_, e7 := Union(&Set{}, s)
	_, e8 := Minus(s, &Set{})
	_, e9 := Minus(&Set{}, s)
	_, e10 := Run("", nil, []*Set{nil})
	_, e11 := new(Iterator).Next()
	for i, e := range []api.Errno{s.PutAt(-1, nil), s.Replace(-1, nil), it.Reset(), new(Iterator).Reset(), e1, e2, e3, e4, e5, e6, e7, e8, e9, e10, e11} {
		if e != api.ErrInvalid {
			t.Error(i, e)
		}
	}
	if s.Count(nil) != 0 || s.Len() != 0 || s.Rows() != nil || it.Left() != 0 || new(Iterator).Left() != 0 {
		t.Error("nil")
	}
}

func TestIterator(t *testing.T) {
	s := set(t, aList, "", "a=1; a=2; a=3")
	it, e := s.Iterator()
	other, _ := s.Iterator()
	next := func() string { return show1(it.Next()) }
	left := func() string { return strconv.Itoa(it.Left()) }
	steps(t, []step{
		{text(0, e), "0"}, {left(), "3"}, {next(), "a=1"}, {left(), "2"}, {code(s.PutAt(1, row("a=5"))), "0"}, {next(), "a=5"}, {code(s.PutAt(0, row("a=6"))), "0"}, {left(), "2"}, {next(), "a=2"}, {show1(s.Take(0)), "a=6"}, {left(), "1"}, {show1(s.Take(3)), "a=3"}, {next(), "!8"}, {left(), "0"}, {text(s.Put(row("a=7"))), "3"}, {left(), "1"}, {next(), "a=7"}, {next(), "!8"}, {code(s.Replace(0, row("a=8"))), "0"}, {next(), "!8"}, {code(it.Reset()), "0"}, {left(), "4"}, {next(), "a=8"},
		{show1(other.Next()), "a=8"},
	})
	// In a keyed collection a row that was told and is moved behind is told again.
	k := set(t, keyed, "a", "a=1; a=2; a=3")
	it, _ = k.Iterator()
	steps(t, []step{{next(), "a=1"}, {next(), "a=2"}, {code(k.Replace(0, row("a=9"))), "0"}, {next(), "a=3"}, {next(), "a=9"}, {next(), "!8"}, {code(k.Replace(2, row("a=0"))), "0"}, {next(), "!8"}, {k.shown(), "a=0; a=2; a=3"}})
	it.Reset()
	steps(t, []step{{next(), "a=0"}, {text(k.Put(row("a=1"))), "1"}, {next(), "a=1"}, {text(k.Put(row("a=-1"))), "0"}, {next(), "a=2"}})
}

func TestUnion(t *testing.T) {
	list, bag, key := set(t, aList, "", "a=2; a=1; a=2"), set(t, aBag, "", "a=2; a=1; b=0"), set(t, keyed, "a", "a=1 c=1; a=3")
	union := func(a, b *Set) string {
		s, e := Union(a, b)
		if e != api.OK {
			return text(0, e)
		}
		return code(api.Errno(s.sort)) + ": " + s.shown()
	}
	minus := func(a, b *Set) string {
		s, e := Minus(a, b)
		if e != api.OK {
			return text(0, e)
		}
		return s.shown()
	}
	steps(t, []step{
		{union(list, bag), "1: a=2; a=1; a=2; a=1; a=2; b=0"}, {union(bag, list), "2: a=1; a=1; a=2; a=2; a=2; b=0"}, {union(key, list), "3: a=1; a=2; a=3"}, {union(key, bag), "!10"}, {union(list, key), "1: a=2; a=1; a=2; a=1 c=1; a=3"}, {union(key, set(t, aList, "", "a=4 d=1; a=3 d=1; a=3 d=2; a=0")), "3: a=0; a=1 c=1; a=3 d=2; a=4 d=1"},
		{minus(list, bag), "a=2"}, {minus(bag, list), "b=0"}, {minus(key, set(t, aBag, "", "a=1; a=3; a=3; a=4")), "a=1 c=1"}, {minus(list, set(t, aList, "", "a=2; b=1")), "a=1; a=2"}, {list.shown(), "a=2; a=1; a=2"}, {key.shown(), "a=1 c=1; a=3"},
	})
	u, _ := Union(key, list)
	if _, e := u.Put(row("b=1")); e != api.ErrKind {
		t.Error("the key is lost", e)
	}
}

func checked(s string) string {
	at, e := Check(s)
	if e == api.OK && at != 0 {
		return "a place without an error"
	}
	return fmt.Sprint(at, " ", int(e))
}

func TestCheck(t *testing.T) {
	// The bar stands before the first wrong byte.
	for _, s := range []string{
		"|", "  |", "sel|", "selec| from t", "select|", "select |", "|x", "|SELECT", "select|x", "select|_", "select *|", "select * |", "select * |a", "select * f|", "select * fr|m t", "select * from |", "select * from from| ", "select * from t|;", "select * from t |x", "select * from t, |", "select * from t,u,v|,w", "select * from t as |", "select * from t as as|", "select * from |T", "select * from t wher|", "select * from t wher|x", "select * from t where|e", "select * from t where |", "select * from t where a |b", "select * from t where a |where", "select * from t a|b", "select *|, a as b from t",
		"select a |from t", "select a a|", "select a as |", "select a as b |c from t", "select a as b, from| t", "select a as |, b", "select a as as| from t", "select (a |", "select (a a|s b from t", "select a|) as b from t", "select (|) as b from t", "select a + |", "select a +|* b", "select a + |* b", "select a |& b", "select a !|", "select a !| b", "select a <|> b as c from t", "select a =|= b as c from t", "select - |", "select not |", "select 1 + not| a as b from t", "select count |as n from t", "select count(|a) as n from t", "select count(* |as n", "select sum(|*) as n from t", "select sum(|) as n from t", "select sum(a a|s n from t", "select leastx |from t", "select null |b", "select true|.a as b from t", "select a.|", "select a.|1 as b from t", "select a.b|.c as d from t", "select a.from| as c from t", "select from| t",
		"select 1|a as b from t", "select 1|_ as b from t", "select 1|A as b from t", "select 1|.5 as b from t", "select 100000000000000|1", "select 1000000000000000|0 as b from t", "select 'a|", "select 'a''|", "select 'a' |'b' as c from t", "select '|", "select a|'b' as c from t", "select |@", "select |\x00", "select a|\ta", "select |\"a\"", "select |\xe4 as b from t", "select " + strings.Repeat("a", 32) + "|a as b from t",
		"select * from t order |", "select * from t order |x", "select * from t order by |", "select * from t order by a |x", "select * from t order by a up|p", "select * from t order by a up, |", "select * from t order by a up |down", "select * from t first |", "select * from t first |x", "select * from t first |-1", "select * from t first 1 |order by a", "select * from t first 1|, 2", "select * from t first 1000000000000000|0", "select * from t order by a |where a", "select * from t where a order |a", "select * from t |by a",
	} {
		at := strings.IndexByte(s, '|')
		plain := s[:at] + s[at+1:]
		if got, want := checked(plain), fmt.Sprint(at, " 2"); got != want {
			t.Errorf("%q: %s", s, got)
		}
	}
	nest := func(n int, open, in, shut string) string {
		return "select * from t where " + strings.Repeat(open, n) + in + strings.Repeat(shut, n)
	}
	for s, want := range map[string]string{
		"select * from t": "0 0", "  select  *  from  t  ": "0 0", "select*from t": "0 0", "select(a)as b from t": "0 0", "select'a'as b from t": "0 0", "select a as b,c as d from t,u as v": "0 0", "select a.b as c from t where a.b=1and 1": "34 2", "select a.b as c from t where a.b='x'and(1=2)or not c<3": "0 0", "select count(*)as n,sum(a)*2 as s,least(b)as l,greatest(c)as g from t": "0 0", "select * from t where a has 'b' order by a,b down,c up first 0": "0 0", "select - - a % 2 as b from t": "0 0", "select not not a as b from t": "0 0", "select nota as b from t": "0 0", "select 007 as b from t": "0 0", "select 1000000000000000 as b from t": "0 0", "select a = b = c as d from t": "0 0", "select 'it''s\n' as d from t": "0 0", "select " + strings.Repeat("a", 32) + " as b from t": "0 0", "select * from t first 007": "0 0", "select * from t as t2, t as t1": "0 0", "select count(*) as n from t where sum(a) > 1 order by count(*)": "0 0", "select selectx as asx from from_ where wherex order by byx first 1": "0 0",
		nest(40, "(", "a", ")"): "0 0", nest(41, "(", "a", ")"): "0 4", nest(40, "not ", "a", ""): "0 0", nest(41, "not ", "a", ""): "0 4", nest(41, "- ", "a", ""): "0 4", nest(41, "sum(", "a", ")"): "0 4", nest(41, "(", "a", ")") + ")": "105 2", nest(600, "(", "a", ")"): "0 4", nest(600, "(", "a", ""): "623 2", strings.Repeat(" ", 3985) + "select * from t": "0 0", strings.Repeat(" ", 3986) + "select * from t": "0 3",
	} {
		if got := checked(s); got != want {
			t.Errorf("%q: %s instead of %s", s, got, want)
		}
	}
}

func TestShow(t *testing.T) {
	for s, want := range map[string]string{
		"select*from t": "select * from t as t",
		"select a*2 as b from t where a>1 order by a down":    "select (a * 2) as b from t as t where (a > 1) order by a down",
		"select a as b , t.c as d from t, u as v first 07":    "select a as b, t.c as d from t as t, u as v first 7",
		"select a+b-c*-d%2/3 as b from t":                     "select ((a + b) - (((c * (- d)) % 2) / 3)) as b from t as t",
		"select not a=b and c or d and not not e as b from t": "select (((not (a = b)) and c) or (d and (not (not e)))) as b from t as t",
		"select a<1<=2 as b from t order by a,b up,((c))down": "select ((a < 1) <= 2) as b from t as t order by a up, b up, c down",
		"select 'it''s' as b,null as c,true as d from t":      "select 'it''s' as b, null as c, true as d from t as t",
		"select count ( * ) as n,sum(a+b) as s from t":        "select count(*) as n, sum((a + b)) as s from t as t",
		"select least(a)+greatest(b) as n from t":             "select (least(a) + greatest(b)) as n from t as t",
		"select (a)has('b')as c from t where(true)":           "select (a has 'b') as c from t as t where true",
		"select a as a, b as a from t, t where x.a != 1":      "select a as a, b as a from t as t, t as t where (x.a != 1)",
		"select a":                             "!2",
		"":                                     "!2",
		strings.Repeat("x", 4001):              "!3",
		"select " + strings.Repeat("(", 50):    "!2",
		"select * from t where - - - - 5 >= 6": "select * from t as t where ((- (- (- (- 5)))) >= 6)",
	} {
		got := text(Show(s))
		if got != want {
			t.Errorf("%q: %s", s, got)
		}
		if again := text(Show(got)); got[0] != '!' && again != got {
			t.Errorf("%q: %s", got, again)
		}
	}
}

func TestValue(t *testing.T) {
	r := row("a=7 b='xyz' c=true n=-2")
	for s, want := range map[string]string{
		"a": "7", "b": "'xyz'", "c": "true", "d": "null", "null": "null", "1 + 2 * 3": "7", "(1 + 2) * 3": "9", "a - 2 - 1": "4", "a / 2": "3", "-a / 2": "-3", "a % 4": "3", "-a % 4": "-3", "n % 4": "-2", "a / 0": "null", "a % 0": "null", "a / d": "null", "a + b": "null", "a + c": "null", "-b": "null", "- - a": "7", "-null": "null", "not c": "false", "not a": "null", "not d": "null", "not not c": "true",
		"a = 7": "true", "a = '7'": "null", "a != 7": "false", "a != d": "null", "b = 'xyz'": "true", "b < 'y'": "true", "b <= 'xyz'": "true", "b > 'xy'": "true", "a < 7": "false", "a <= 7": "true", "a >= 8": "false", "c = true": "true", "c > false": "true", "c < false": "false", "null = null": "null", "b has 'yz'": "true", "b has 'zy'": "false", "b has ''": "true", "'y' has b": "false", "a has 7": "null", "b has 7": "null", "a = 7 = c": "true", "a < 8 = c": "true",
		"c and false": "false", "d and false": "false", "false and d": "false", "a and false": "false", "d and c": "null", "c and d": "null", "c and c": "true", "d or c": "true", "c or d": "true", "d or false": "null", "a or c": "true", "a or false": "null", "false or false": "false", "a and a": "null", "true and b": "null",
		"1000000000000000": "1000000000000000", "1000000000000000 + 1": "null", "-1000000000000000 - 1": "null", "1000000000000000 + 1 - 1": "null", "1000000000000000 * 1000000000000000": "null", "100000000 * 10000000": "1000000000000000", "-100000000 * 10000000": "-1000000000000000", "100000000 * 10000001": "null", "0 * 1000000000000000": "0", "'it''s'": "'it''s'", "''": "''", " 7 ": "7", "0007": "7",
		"t.a": "!2", "count(*)": "!2", "sum(a)": "!2", "least(a)": "!2", "count": "!2", "select": "!2", "": "!2", "a b": "!2", "a +": "!2", "*": "!2", "1000000000000001": "!2", "A": "!2", strings.Repeat(" ", 3999) + "a": "7", strings.Repeat(" ", 4000) + "a": "!3", strings.Repeat("(", 41) + "a" + strings.Repeat(")", 41): "!4", strings.Repeat("(", 40) + "a" + strings.Repeat(")", 40): "7",
	} {
		v, ok, e := Value(s, r)
		got := text(showValue(valueOf(v)), e)
		if got != want || (e != api.OK || !ok) && !reflect.DeepEqual(v, api.Prop{}) || ok != (want != "null" && want[0] != '!') {
			t.Errorf("%s: %s instead of %s", s, got, want)
		}
	}
}

func TestRun(t *testing.T) {
	abc := set(t, aList, "", "a=1; a=2; a=3")
	mixed := set(t, aList, "", "a=2 k=1; a='x' k=2; k=3; a=true k=4; a=-1 k=5; a=false k=6; a=2 k=7; a='w' k=8")
	u := set(t, aBag, "", "a=2 b=5; b=6; a=1 b=7 from=1")
	run := func(s string) string {
		return shown(Run(s, []string{"t", "m", "u"}, []*Set{abc, mixed, u}))
	}
	for s, want := range map[string]string{
		"select a * 2 as b from t where a > 1 order by a down": "b=6; b=4", "select count(*) as n from t": "n=3", "select * from t": "a=1; a=2; a=3", "select * from u": "a=1 b=7 from=1; a=2 b=5; b=6", "select * from t where a = 9": "", "select * from t first 0": "", "select * from t first 2": "a=1; a=2", "select * from t first 9": "a=1; a=2; a=3", "select * from t where a": "", "select * from t where null": "", "select * from t where not (a = 2)": "a=1; a=3",
		"select k as k from m order by a": "k=3; k=5; k=1; k=7; k=8; k=2; k=6; k=4", "select k as k from m order by a down": "k=4; k=6; k=2; k=8; k=1; k=7; k=5; k=3", "select k as k from m order by a = 2 down, k down": "k=7; k=1; k=5; k=8; k=6; k=4; k=3; k=2", "select k as k from m order by 1": "k=1; k=2; k=3; k=4; k=5; k=6; k=7; k=8", "select k as k from m where k < 4 order by -k first 2": "k=3; k=2",
		"select b as z, a as y, b + a as x from u": "x=8 y=1 z=7; x=7 y=2 z=5; z=6", "select null as a, c as b from t": "; ; ",
		"select t.a as x, b as y from t, u where t.a = u.a": "x=1 y=7; x=2 y=5", "select * from t, u where t.a = u.a": "t_a=1 u_a=1 u_b=7 u_from=1; t_a=2 u_a=2 u_b=5", "select a as a, b as b from u, t first 4": "a=1 b=7; a=1 b=7; a=1 b=7; a=2 b=5", "select a as a from u, t where b = 6": "a=1; a=2; a=3", "select x.a * y.a as p from t as x, t as y where x.a < y.a": "p=2; p=3; p=6", "select * from t as x, t as x_y first 1": "x_a=1 x_y_a=1",
		"select count(*) as n, sum(a) as s, least(a) as l, greatest(a) as g, a as x, 5 as f from m": "f=5 g=true l=-1 n=8", "select sum(a) as s, least(a) as l, greatest(a) as g from u": "g=2 l=1 s=3", "select sum(a * 2) + count(*) as s from t where a > 1": "s=12", "select count(*) as n, sum(a) as s, least(a) as l from t where false": "n=0", "select count(*) as n from t first 0": "", "select count(*) as n from t order by a down first 1": "n=3", "select count(*) as n from t, u": "n=9", "select sum(z) as n from t": "", "select sum(sum(a)) as n, sum(count(*)) as m from t": "", "select a as a from t where count(*) > 0": "", "select sum(t.a * u.b) as n from t, u": "n=108", "select a + count(*) as n from t": "", "select sum(k) as s from m where a has 'x' or a = 2": "s=10",
		"select * from v": "!5", "select * from t, v": "!5", "select v.a as b from t": "!5", "select * from t as x where t.a = 1": "!5", "select * from t order by v.a": "!5", "select count(*) as n from t order by v.a": "!5", "select sum(v.a) as n from t": "!5", "select a as b, a as b from t": "!6", "select * from t, t": "!6", "select * from t as u, u": "!6", "select a as b, a as b from t, v": "!5", "select": "!2", strings.Repeat("x", 4001): "!3", "select * from t where " + strings.Repeat("(", 41) + "a" + strings.Repeat(")", 41): "!4", "select * from t as " + strings.Repeat("x", 31) + ", m as y where y.k = 3": "!4", "select * from t as " + strings.Repeat("x", 30) + ", m as y where y.k = 3 first 1": strings.Repeat("x", 30) + "_a=1 y_k=3", "select * from t as " + strings.Repeat("x", 31) + ", m as y first 0": "",
	} {
		if got := run(s); got != want {
			t.Errorf("%s: %s instead of %s", s, got, want)
		}
	}
	names := func(l ...string) string { return shown(Run("select * from t", l, []*Set{abc})) }
	steps(t, []step{
		{names("t"), "a=1; a=2; a=3"}, {names("T"), "!1"}, {names(""), "!1"}, {names("u"), "!5"}, {names(), "!5"}, {names("t", "u"), "!11"}, {names("t", "t"), "!11"}, {shown(Run("select * from t", []string{"t", "t"}, []*Set{abc, u})), "!6"}, {shown(Run("select * from t", []string{"t"}, []*Set{abc, u})), "!11"}, {shown(Run("selec", []string{"T"}, []*Set{abc, u})), "!1"}, {shown(Run("selec", []string{"t"}, []*Set{abc, nil})), "!1"}, {shown(Run("select * from t", []string{"t", "from"}, []*Set{abc, abc})), "a=1; a=2; a=3"},
	})
	// Two fields of one name that come of different aliases.
	one, two := set(t, aList, "", "b_c=1"), set(t, aList, "", "c=1")
	steps(t, []step{{shown(Run("select * from t as a, u as a_b", []string{"t", "u"}, []*Set{one, two})), "!6"}, {shown(Run("select * from t as a, u as b", []string{"t", "u"}, []*Set{one, two})), "a_b_c=1 b_c=1"}})
}

func TestMany(t *testing.T) {
	var sets []*Set
	for _, n := range []int{1000, 100, 101, 0} {
		s := set(t, aList, "", "")
		for i := range n {
			s.Put([]api.Prop{{Name: "a", Kind: 1, N: 1e15 - i%2}})
		}
		sets = append(sets, s)
	}
	run := func(s string) string { return shown(Run(s, []string{"t", "h", "i", "o"}, sets)) }
	steps(t, []step{
		{run("select count(*) as n from t, h"), "n=100000"}, {run("select count(*) as n from t, i"), "!4"}, {run("select count(*) as n from t, i, o"), "n=0"}, {run("select count(*) as n from t, i where false"), "!4"}, {run("select sum(t.a) as n from t, h"), ""}, {run("select sum(t.a - h.a) as n from t, h"), "n=0"}, {run("select sum(a) as n, sum(a) - 1 as m, sum(a - 1000000000000000) as d from h first 1"), "d=-50"}, {run("select t.a as a from t, h where t.a = h.a first 1"), "a=1000000000000000"}, {run("select t.a as a from t, h"), "!4"}, {run("select t.a as a from t, h where false"), ""}, {strconv.Itoa(strings.Count(run("select t.a as a from t, h first 1000"), "; ")), "999"}, {run("select t.a as a from t, h first 1001"), "!4"},
	})
	// A sum that leaves the bounds on its way, and comes back.
	s := set(t, aList, "", "")
	for i := range 1000 {
		s.Put([]api.Prop{{Name: "a", Kind: 1, N: 1e15 * (1 - i%1000/500*2)}})
	}
	s.Put(row("a=5"))
	steps(t, []step{{shown(Run("select sum(s.a) as n from s, h", []string{"s", "h"}, []*Set{s, sets[1]})), "n=0"}})
	s.Replace(0, row("a=-7"))
	steps(t, []step{{shown(Run("select sum(a) + 0 as n from s where a < 0 or true first 1", []string{"s"}, []*Set{s})), ""}})
	s.Replace(999, row("a=9"))
	steps(t, []step{{shown(Run("select sum(a) as n from s", []string{"s"}, []*Set{s})), "n=2"}})
}

// anyRow returns a row of few fields.
func anyRow(r *sample.Source) []api.Prop {
	var l []api.Prop
	for _, name := range []string{"a", "b", "c"} {
		v := []value{{}, number(r.Int(3) - 1), {kind: aText, s: r.Text("x'", 2)}, truth(r.Int(2) == 0), number(2)}[r.Int(5)]
		if v.kind != isNull {
			l = append(l, v.prop(name))
		}
	}
	return l
}

func anySet(r *sample.Source, sort, rows int) *Set {
	var key []string
	if sort == keyed {
		key = []string{"b", "a"}
	}
	s, _ := New(sort, key)
	for range rows {
		s.Put(anyRow(r))
	}
	return s
}

// anyExpr returns an expression; whole ones have count and its like.
func anyExpr(r *sample.Source, deep int, whole bool) string {
	if deep == 0 {
		return []string{"a", "b", "c", "t.a", "u.b", "d", "1", "2", "0", "'x'", "''''", "true", "false", "null", "3"}[r.Int(15)]
	}
	inner := func() string { return anyExpr(r, r.Int(deep), whole) }
	ops := []string{"or", "and", "=", "!=", "<", "<=", ">", ">=", "has", "+", "-", "*", "/", "%"}
	switch r.Int(6) {
	case 0:
		return "(" + inner() + ")"
	case 1:
		return "(not " + inner() + ")"
	case 2:
		return "(- " + inner() + ")"
	case 3:
		if whole {
			return []string{"count(*)", "sum(" + inner() + ")", "least(" + inner() + ")", "greatest(" + inner() + ")"}[r.Int(4)]
		}
	}
	return inner() + " " + ops[r.Int(len(ops))] + " " + inner()
}

// anyQuery returns a query of two collections.
func anyQuery(r *sample.Source) string {
	s := "select *"
	if r.Int(3) > 0 {
		s = "select " + anyExpr(r, r.Int(4), r.Int(3) == 0) + " as x, " + anyExpr(r, r.Int(3), false) + " as y"
	}
	s += " from t, v as u"
	if r.Int(2) == 0 {
		s += " where " + anyExpr(r, r.Int(4), false)
	}
	if r.Int(2) == 0 {
		s += " order by " + anyExpr(r, r.Int(3), false) + []string{"", " up", " down"}[r.Int(3)] + ", " + anyExpr(r, 1, false)
	}
	if r.Int(3) == 0 {
		s += " first " + strconv.Itoa(r.Int(5))
	}
	return s
}

func TestShown(t *testing.T) {
	r := sample.New(32)
	told := 0
	for range 3000 {
		q := anyQuery(r)
		show, e := Show(q)
		if again, e2 := Show(show); e == api.OK && (e2 != api.OK || again != show) {
			t.Fatal(q, show, again)
		}
		sets := []*Set{anySet(r, 1+r.Int(3), r.Int(5)), anySet(r, 1+r.Int(3), r.Int(4))}
		one := shown(Run(q, []string{"t", "v"}, sets))
		two := shown(Run(show, []string{"t", "v"}, sets))
		if e == api.OK && one != two || e != api.OK && one != "!2" {
			t.Fatal(q, one, two)
		}
		if e == api.OK && one != "" {
			told++
		}
	}
	if told < 500 {
		t.Error(told)
	}
}

// sameAs asks that Show of what it shows of a query is that, and tells the same rows, if it is not too long.
func sameAs(t *testing.T, text string) api.Errno {
	t.Helper()
	show, e := Show(text)
	if e != api.OK || len(show) > maxText {
		return e
	}
	if again, e := Show(show); again != show || e != api.OK {
		t.Errorf("Show of Show of %q: %d", text, e)
	}
	s, _ := New(aList, nil)
	s.Put([]api.Prop{{Name: "a", Kind: 1, N: 7}, {Name: "b", Kind: 3, N: 1}})
	s.Put([]api.Prop{{Name: "a", Kind: 1}})
	one := shown(Run(text, []string{"t"}, []*Set{s}))
	if two := shown(Run(show, []string{"t"}, []*Set{s})); one != two || strings.HasPrefix(one, "!") {
		t.Errorf("rows of Show of %q: %s instead of %s", text, two, one)
	}
	return e
}

func TestNested(t *testing.T) {
	for i, c := range []struct {
		n              int
		open, in, shut string
		want           api.Errno
	}{
		{40, "-", "a", "", 0}, {41, "-", "a", "", 4}, {40, "not ", "b", "", 0}, {41, "not ", "b", "", 4}, {600, "a+", "a", "", 0}, {200, "(", "a", "+a)", 0}, {39, "-(", "a", ")", 0}, {40, "-(", "a", ")", 4}, {40, "(", "a", ")", 0}, {41, "(", "a", ")", 4}, {40, "(", "a+a", ")", 0}, {41, "(", "a+a", ")", 4}, {40, "a+(", "a", ")", 0}, {41, "a+(", "a", ")", 4}, {40, "a-(", "a-1", ")", 0}, {41, "a-(", "a-1", ")", 4}, {100, "(", "a", "=a)", 0}, {41, "(a=", "a", ")", 0}, {42, "(a=", "a", ")", 4}, {41, "a or not ", "b", "", 0}, {20, "not (b or ", "b", ")", 0}, {21, "not (b or ", "b", ")", 4}, {40, "sum(", "a", ")", 0}, {41, "sum(", "a", ")", 4}, {20, "sum(-", "a", ")", 0}, {20, "sum(a*", "a", ")", 0}, {20, "(sum(", "a", "))", 0}, {21, "(sum(", "a", "))", 4}, {40, "-", "count(*)", "", 0},
	} {
		x := strings.Repeat(c.open, c.n) + c.in + strings.Repeat(c.shut, c.n)
		for _, text := range []string{"select * from t where " + x, "select a as c, " + x + " as d from t", "select * from t order by " + x + " down"} {
			if e := sameAs(t, text); e != c.want {
				t.Errorf("%d: %q: %d", i, text, e)
			}
		}
	}
}

// deepExpr returns an expression nested about so deep, with needless parentheses here and there.
func deepExpr(r *sample.Source, deep int) string {
	x := []string{"a", "b", "1", "null"}[r.Int(4)]
	for range deep {
		op := []string{"or", "and", "=", "has", "+", "%"}[r.Int(6)]
		switch r.Int(7) {
		case 0:
			x = "(" + x + ")"
		case 1:
			x = "(not " + x + ")"
		case 2:
			x = "-(" + x + ")"
		case 3:
			x = "(" + x + ") " + op + " a"
		case 4:
			x = "a " + op + " (" + x + ")"
		case 5:
			x += " " + op + " a"
		case 6:
			x = "least(" + x + ")"
		}
	}
	return x
}

func TestDeep(t *testing.T) {
	r := sample.New(321)
	over := 0
	for range 3000 {
		e := sameAs(t, "select "+deepExpr(r, 30+r.Int(60))+" as x from t")
		if e == api.ErrLimit {
			over++
		} else if e != api.OK {
			t.Fatal(e)
		}
	}
	if over < 300 || over > 2700 {
		t.Error(over)
	}
}

// TestFirstByte asks that what stands before the first wrong byte lacks something at most, and that what is wrong stays so.
func TestFirstByte(t *testing.T) {
	r := sample.New(320)
	for range 5000 {
		q := []byte(anyQuery(r))
		for range 1 + r.Int(2) {
			i := r.Int(len(q))
			switch c := " abefhlmnorstuwxy_.,'()*<>=!-019A@"[r.Int(34)]; r.Int(3) {
			case 0:
				q[i] = c
			case 1:
				q = slices.Insert(q, i, c)
			case 2:
				q = slices.Delete(q, i, i+1)
			}
		}
		at, e := Check(string(q))
		for i := range len(q) + 1 {
			at2, e2 := Check(string(q[:i]))
			right := e2 == api.OK || at2 == i
			if right != (e == api.OK || i <= at) || !right && at2 != at {
				t.Fatalf("%q: %d; %q: %d", q, at, q[:i], at2)
			}
		}
	}
}

func TestFiltered(t *testing.T) {
	r := sample.New(321)
	for range 1000 {
		s := anySet(r, 1+r.Int(3), r.Int(6))
		one, two := anyExpr(r, r.Int(3), false), anyExpr(r, r.Int(3), false)
		one, two = strings.ReplaceAll(one, "u.", "t."), strings.ReplaceAll(two, "u.", "t.")
		first, e := Run("select * from t where "+one, []string{"t"}, []*Set{s})
		if e == api.ErrSyntax {
			continue
		}
		var want [][]api.Prop
		for _, x := range s.Rows() {
			if v, ok, e := Value(strings.ReplaceAll(one, "t.", ""), x); e == api.OK && ok && valueOf(v) == truth(true) {
				want = append(want, x)
			}
		}
		if e != api.OK || shown(first, e) != shown(want, api.OK) {
			t.Fatal(one, s.shown(), first)
		}
		n, _ := Run("select count(*) as n from t where "+one, []string{"t"}, []*Set{s})
		if show(n[0]) != "n="+strconv.Itoa(len(want)) {
			t.Fatal("count", n)
		}
		list, _ := New(aList, nil)
		for _, x := range first {
			list.Put(x)
		}
		then := shown(Run("select * from t where "+two, []string{"t"}, []*Set{list}))
		if both := shown(Run("select * from t where ("+one+") and ("+two+")", []string{"t"}, []*Set{s})); then != both && then != "!2" {
			t.Fatal(one, two, then, both)
		}
	}
}

func TestSets(t *testing.T) {
	r := sample.New(322)
	for range 1000 {
		s := anySet(r, aBag+r.Int(2), r.Int(8))
		isInOrder := func() bool {
			return slices.IsSortedFunc(s.rows, func(a, b []api.Prop) int {
				if s.sort == aBag {
					return CompareRows(a, b)
				}
				x, _ := s.keyOf(a)
				y, _ := s.keyOf(b)
				return slices.CompareFunc(x, y, compared)
			})
		}
		for range 10 {
			before, x := s.shown(), anyRow(r)
			i, e := s.Put(x)
			if e == api.OK && (!isInOrder() || show1(s.Take(i)) != show(x) || s.shown() != before) {
				t.Fatal(before, x)
			}
			if s.Len() > 0 {
				s.Replace(r.Int(s.Len()), x)
			}
			if !isInOrder() {
				t.Fatal("not in order", s.shown())
			}
		}
		a, b := anySet(r, aBag, r.Int(6)), anySet(r, 1+r.Int(3), r.Int(6))
		u, _ := Union(a, b)
		if m, e := Minus(u, b); e != api.OK || m.shown() != a.shown() || u.Len() != a.Len()+b.Len() {
			t.Fatal(a.shown(), b.shown(), u.shown())
		}
	}
}

// TestIterators asks that a row that stays through all changes is told once.
func TestIterators(t *testing.T) {
	r := sample.New(323)
	for range 500 {
		sort := 1 + r.Int(3)
		s := set(t, sort, []string{"", "", "a"}[sort-1], "")
		stays, n := map[int]bool{}, 0
		fresh := func() []api.Prop {
			n++
			return []api.Prop{{Name: "a", Kind: 1, N: r.Int(1000)*1000 + n}}
		}
		for range 8 {
			x := fresh()
			s.Put(x)
			stays[x[0].N] = true
		}
		it, _ := s.Iterator()
		told := map[int]int{}
		for it.Left() > 0 {
			switch i := r.Int(s.Len()); r.Int(6) {
			case 0:
				s.Put(fresh())
			case 1:
				s.PutAt(i, fresh())
			case 2:
				x, _ := s.Take(i)
				delete(stays, x[0].N)
			case 3:
				delete(stays, s.rows[i][0].N)
				s.Replace(i, fresh())
			default:
				x, e := it.Next()
				if e != api.OK {
					t.Fatal(e)
				}
				told[x[0].N]++
			}
		}
		for x := range stays {
			if told[x] != 1 {
				t.Fatal(x, told)
			}
		}
	}
}
