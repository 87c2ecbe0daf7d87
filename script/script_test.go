package script

import (
	"strings"
	"testing"

	"intermede/api"
	"intermede/kind"
	"intermede/repo"
	"intermede/sample"
)

const faces = `
module M {
  enum E { A, B };
  struct S { long n; };
  exception X { string why; long n; };
  exception Y {};
  const long Five = 5;
  const string Word = "w";
  interface Base { typedef long T; void base(); };
  interface I : Base {
    long add(in long a);
    void all(in long l, in boolean b, in string s, in Object o, in S d, inout long io, out string t) raises (X);
    attribute string name;
    oneway void tell(in E e);
  };
};
interface Other { long get(); void put(in long n); void turn(inout long n); };
`

func defs(t *testing.T) []api.Def {
	t.Helper()
	l, line, path, e := repo.Read(faces)
	if e != api.OK {
		t.Fatal(line, path, e)
	}
	return l
}

// class makes a class of M::I with fields, and vars and statements of the operation all.
func class(fields, body string) string {
	return "class C of M::I {\n" + fields + "\nop base { } op add { return a; } op _get_name { return \"\"; } op _set_name { } op tell { }\nop all {" + body + "} }"
}

func TestRight(t *testing.T) {
	for _, body := range []string{
		"", "io = l + 1 - 2 * 3 / 4 % 5;", "io = -(l) - -io;", "t = s & \"x\" & t;", "if l < 1 and s >= \"a\" or not b { } else { io = 1; }", "while b == false { t = \"\"; }", "if d == d { return; }", "if o == nil or o != self { }", "raise M::X(\"a\", 1 + l);", "raise ::M::X(s, io);",
		"var Other x; x = nil; x = o; io = call x.get();", "var Other x; call x.put(1); call (x).put(l);", "var M::E e; call self.tell(e);", "try { io = call self.add(1); } catch t { t = \"\"; }", "var M::I::T q; q = io;", "var sequence<M::S,M::Five + M::B> q; q = q;", "var M::S q; q = d;", "var string<M::Five> q; q = s; try { } catch q { }", "var any x; x = x; if x == x { }", "l2 = true;", "var short h; h = 100000; io = h;", "io = 0x1f;", "try { } catch f { }", "return; return;",
	} {
		fields := "field boolean l2; field string f;"
		text := class(fields, body)
		l, line, e := Check(defs(t), text)
		if e != api.OK || len(l) != 1 || line != 0 {
			t.Errorf("%s: %d at %d", body, e, line)
			continue
		}
		again, line, e := Check(defs(t), l[0].Text())
		if e != api.OK || again[0].Text() != l[0].Text() {
			t.Errorf("%s: %d at %d", l[0].Text(), e, line)
		}
		if s, e := Format(text); s != l[0].Text() || e != api.OK {
			t.Error(s)
		}
		if s, e := Format(l[0].Text()); s != l[0].Text() || e != api.OK {
			t.Error(s)
		}
	}
}

func TestWrong(t *testing.T) {
	for _, c := range []struct {
		fields, body string
		e            api.Errno
		line         int
	}{
		{"field long a2;\nfield Q a2;", "", api.ErrDuplicate, 2}, {"", "var long l;", api.ErrDuplicate, 3}, {"", "\nvar long x;\nvar Q x;", api.ErrDuplicate, 5}, {"field long io;", "", api.ErrDuplicate, 3}, {"field long q;", "\nvar long q;", api.ErrDuplicate, 4}, {"field long a;", "", api.ErrDuplicate, 2},
		{"field Q q;", "", api.ErrName, 1}, {"field string<M::Q> q;", "", api.ErrName, 1}, {"", "\nx = 1;", api.ErrName, 4}, {"", "\n\nio = x + true;", api.ErrName, 5}, {"", "raise M::Q(1);", api.ErrName, 3}, {"", "raise M::Y(x);", api.ErrName, 3}, {"", "try { x = 1; } catch z { }", api.ErrName, 3}, {"", "call self.nothing();", api.ErrName, 3}, {"", "call nil.get();", api.ErrName, 3}, {"", "call o.get();", api.ErrName, 3}, {"", "call l.get(x);", api.ErrName, 3}, {"", "if true { } while z { }", api.ErrName, 3}, {"", "try {\nx = 1; } catch t { }", api.ErrName, 4}, {"", "try { } catch t {\nx = 1; }", api.ErrName, 4},
		{"field void q;", "", api.ErrSyntax, 1}, {"field M::X q;", "", api.ErrKind, 1}, {"field M q;", "", api.ErrKind, 1}, {"field M::A q;", "", api.ErrKind, 1}, {"field M::S::n q;", "", api.ErrKind, 1}, {"field string<0> q;", "", api.ErrKind, 1}, {"field string<1001> q;", "", api.ErrKind, 1}, {"field string<M::Word> q;", "", api.ErrKind, 1}, {"field fixed<3,4> q;", "", api.ErrKind, 1}, {"field array<long,1 / 0> q;", "", api.ErrKind, 1}, {"field sequence<M::X> q;", "", api.ErrKind, 1},
		{"", "l = 1;", api.ErrKind, 3}, {"", "io = true;", api.ErrKind, 3}, {"", "io = \"a\";", api.ErrKind, 3}, {"", "io = nil;", api.ErrKind, 3}, {"", "io = d;", api.ErrKind, 3}, {"", "t = 1;", api.ErrKind, 3}, {"", "io = 1 & 2;", api.ErrKind, 3}, {"", "t = s + s;", api.ErrKind, 3}, {"", "if 1 { }", api.ErrKind, 3}, {"", "while s { }", api.ErrKind, 3}, {"", "if b < b { }", api.ErrKind, 3}, {"", "if l == s { }", api.ErrKind, 3}, {"", "if d == 1 { }", api.ErrKind, 3}, {"", "if not 1 { }", api.ErrKind, 3}, {"", "if b and 1 { }", api.ErrKind, 3}, {"", "var M::E q; if d == q { }", api.ErrKind, 3}, {"", "var M::E q; q = d;", api.ErrKind, 3}, {"", "var M::E q; io = q;", api.ErrKind, 3}, {"", "var char q; io = q;", api.ErrKind, 3},
		{"", "return 1;", api.ErrKind, 3}, {"", "raise M::Y();", api.ErrKind, 3}, {"", "raise M::S(1);", api.ErrKind, 3}, {"", "raise M::X(1);", api.ErrKind, 3}, {"", "raise M::X(s, s);", api.ErrKind, 3}, {"", "call l.get();", api.ErrKind, 3}, {"", "call (1 + true).get();", api.ErrKind, 3}, {"", "call self.add();", api.ErrKind, 3}, {"", "call self.add(s);", api.ErrKind, 3}, {"", "var Other q; call q.turn(io);", api.ErrKind, 3}, {"", "var Other q; io = call q.put(1);", api.ErrKind, 3}, {"", "var Other q; t = call q.get();", api.ErrKind, 3}, {"", "var Other q; l = call q.get();", api.ErrKind, 3}, {"", "try { x = 1; } catch io { }", api.ErrKind, 3}, {"", "try { } catch s { }", api.ErrKind, 3},
		{"", "try {\nl = 1; } catch q { }", api.ErrName, 3},
	} {
		l, line, e := Check(defs(t), class(c.fields, c.body))
		if e != c.e || line != c.line || l != nil {
			t.Errorf("%s %s: %d at %d instead of %d at %d", c.fields, c.body, e, line, c.e, c.line)
		}
	}
}

func TestClasses(t *testing.T) {
	other := "op get { return 1; } op put { } op turn { } }"
	for _, c := range []struct {
		s    string
		e    api.Errno
		line int
	}{
		{"", 0, 0}, {"class A of Other { " + other, 0, 0}, {"class A of ::Other { " + other + "\nclass B of Other { " + other, 0, 0}, {"class A of Other { " + other + "\n\nclass A of Q { " + other, api.ErrDuplicate, 2}, {"\nclass\nA of Q { " + other, api.ErrName, 2}, {"class A of M { " + other, api.ErrKind, 0}, {"class A of M::Base::T { }", api.ErrKind, 0}, {"class A of M::S { }", api.ErrKind, 0}, {"class A of Other { op get { return 1; } op put { }\nop get { } }", api.ErrDuplicate, 1}, {"class A of Other {\nop got { } }", api.ErrName, 1}, {"\nclass A of Other { op get { return 1; } op put { } }", api.ErrKind, 1}, {"class A of Other { op get { } op put { }\nop turn { n = true; } }", api.ErrKind, 1},
		{"class A of Other { op get { return; } op put { } op turn { } }", api.ErrKind, 0},
	} {
		if _, line, e := Check(defs(t), c.s); e != c.e || line != c.line {
			t.Errorf("%q: %d at %d", c.s, e, line)
		}
	}
	if _, line, e := Check([]api.Def{{}}, "x"); e != api.ErrInvalid || line != 0 {
		t.Error(e)
	}
	if _, line, e := Check(defs(t), strings.Repeat(" ", api.MaxText+1)); e != api.ErrLong || line != 0 {
		t.Error(e)
	}
	aliased, _, _, _ := repo.Read("interface I {}; typedef I J;")
	if _, _, e := Check(aliased, "class C of J { }"); e != api.ErrKind {
		t.Error(e)
	}
}

func TestSyntax(t *testing.T) {
	for _, c := range []struct {
		s    string
		line int
	}{
		{"x", 0}, {"\nclass", 1}, {"class if of I { }", 0}, {"class long of I { }", 0}, {"class C\nof self { }", 1}, {"class C of I::op { }", 0}, {"class C of I { field long x }", 0}, {"class C of I { field long\n; }", 1}, {"class C of I { field\nwhile x; }", 1}, {"class C of I { field long\nself; }", 1}, {"class C of I { field sequence<\nvar> q; }", 1}, {"class C of I { field sequence<long\n", 0}, {"class C of I { field long x // y", 0}, {"class C of I { field long x\n\n", 1}, {"class C of I { field 1\n?; }", 0}, {"class C of I { field long\n?; }", 1},
		{"class C of I { op f { }\nfield long x; }", 1}, {"class C of I { op f { x = 1;\nvar long y; } }", 1}, {"class C of I { op _f { }\nop __f { } }", 1}, {"class C of I { op f { _x = 1; } }", 0}, {"class C of I { op f { x =\n; } }", 1}, {"class C of I { op f { x == 1; } }", 0}, {"class C of I { op f { x = 1 == 2\n== 3; } }", 1}, {"class C of I { op f { x = 1 !\n= 2; } }", 0}, {"class C of I { op f { x = (1\n; } }", 1}, {"class C of I { op f { x = 1 >>\n2; } }", 0}, {"class C of I { op f { call x; } }", 0}, {"class C of I { op f { call x.f; } }", 0}, {"class C of I { op f { call x.f(1,); } }", 0}, {"class C of I { op f { x = call y.in(); } }", 0}, {"class C of I { op f { raise X; } }", 0}, {"class C of I { op f { if x\n; } }", 1}, {"class C of I { op f { try { } } }", 0}, {"class C of I { op f { try { }\ncatch 1 { } } }", 1}, {"class C of I { op f { x = 01; } }", 0}, {"class C of I { op f { x = \"a\n\"; } }", 0}, {"class C of I { op f { x = not; } }", 0}, {"class C of I { op f { x = 9223372036854775808; } }", 0}, {"class C of I { } }", 0},
	} {
		l, line, e := Parse(c.s)
		if e != api.ErrSyntax || line != c.line || l != nil {
			t.Errorf("%q: %d at %d", c.s, e, line)
		}
		if s, e := Format(c.s); s != "" || e != api.ErrSyntax {
			t.Errorf("%q: %d", c.s, e)
		}
	}
	l, _, e := Parse("class A of I { } // x\nclass B of ::M::J { }")
	if strings.Join(l, " ") != "A B" || e != api.OK {
		t.Error(l, e)
	}
}

func TestLimits(t *testing.T) {
	nest := func(n int, a, m, b string) string { return strings.Repeat(a, n) + m + strings.Repeat(b, n) }
	wrap := func(body string) string {
		return "class A of Other { op get { return 1; } op put { " + body + " } op turn { } }"
	}
	fields := func(n int) string {
		s := ""
		for i := range n {
			s += "field long f" + string(rune('a'+i)) + ";"
		}
		return "class A of Other { " + s + " op get { return 1; } op put { } op turn { } }"
	}
	for i, c := range []struct {
		s    string
		want api.Errno
	}{
		{wrap(nest(8, "if true { ", "", "} ")), 0}, {wrap(nest(9, "if true { ", "", "} ")), api.ErrLimit}, {wrap("if " + nest(10, "(", "true", ")") + " { }"), 0}, {wrap("if " + nest(11, "(", "true", ")") + " { }"), api.ErrLimit}, {wrap("if " + nest(20000, "(", "true", ")") + " { }"), api.ErrLimit}, {wrap(strings.Repeat("return;", 199)), 0}, {wrap(strings.Repeat("return;", 200)), api.ErrLimit}, {wrap("var " + nest(10, "sequence<", "long", ">") + " x;"), api.ErrLimit}, {wrap(strings.Repeat("return;", 200) + "x = 1;"), api.ErrName}, {fields(24), 0}, {fields(25), api.ErrLimit},
	} {
		_, line, e := Check(defs(t), c.s)
		if e != c.want || e == api.ErrLimit && line != 0 {
			t.Error(i, e, line)
		}
		want := c.want
		if want == api.ErrName {
			want = api.ErrLimit
		}
		if _, _, e := Parse(c.s); e != want {
			t.Error(i, e)
		}
		if _, e := Format(c.s); e != want {
			t.Error(i, e)
		}
	}
}

func TestClass(t *testing.T) {
	text := class("field long n; field M::S ss;", "var string x; call self.add(1); if b { io = call self.add(2); } try { call self._get_name(); } catch x { }")
	text = strings.Replace(text, "call self._get_name();", "t = call self._get_name();", 1)
	l, line, e := Check(defs(t), text)
	if e != api.OK {
		t.Fatal(e, line)
	}
	c := l[0]
	if c.Name() != "C" || c.Interface() != "M/I:1.0" || strings.Join(c.Methods(), " ") != "base add all _get_name _set_name tell" {
		t.Error(c.Name(), c.Interface(), c.Methods())
	}
	f := c.Fields()
	if len(f) != 2 || f[0].Name != "n" || f[0].Way != 0 || kind.Format(f[1].Type) != "struct M/S:1.0 S{n long;}" {
		t.Error(f)
	}
	f[1].Type.Names[0] = "z"
	if c.Fields()[1].Type.Names[0] != "n" {
		t.Error("shared")
	}
	if l, e := c.Calls("all"); strings.Join(l, " ") != "add add _get_name" || e != api.OK {
		t.Error(l, e)
	}
	if l, e := c.Calls("base"); len(l) != 0 || e != api.OK {
		t.Error(l, e)
	}
	if _, e := c.Calls("nothing"); e != api.ErrName {
		t.Error(e)
	}
	v, e := Variables(defs(t), text, "C", "all")
	var names []string
	for _, p := range v {
		names = append(names, p.Name+string(rune('0'+p.Way)))
	}
	if strings.Join(names, " ") != "l1 b1 s1 o1 d1 io3 t2 x0" || e != api.OK {
		t.Error(names, e)
	}
	for _, c := range [][2]string{{"D", "all"}, {"C", "nothing"}} {
		if _, e := Variables(defs(t), text, c[0], c[1]); e != api.ErrName {
			t.Error(c, e)
		}
	}
	if _, e := Variables(defs(t), "x", "C", "all"); e != api.ErrSyntax {
		t.Error(e)
	}
	var none *Class
	if _, e := none.Calls("x"); e != api.ErrInvalid || none.Name() != "" || none.Interface() != "" || none.Fields() != nil || none.Methods() != nil || none.Text() != "" {
		t.Error("nil")
	}
	more, _, _, e := repo.Read(faces + "struct More { long a; }; interface Z : Other { };")
	if again, _, e2 := Check(more, text); e != api.OK || e2 != api.OK || again[0].Text() != c.Text() {
		t.Error(e, e2)
	}
}

func TestRandom(t *testing.T) {
	s := sample.New(9)
	words := strings.Fields("io l b s o d t f + - * / % & == != < <= > >= and or not ( ) ( ) 1 \"x\" true nil self , ; = { } if else while try catch return raise M::X call . add var long field op class of")
	for range 2000 {
		body := ""
		for range s.Int(12) {
			body += words[s.Int(len(words))] + " "
		}
		if s.Int(2) == 0 {
			body = "io = " + body + ";"
		}
		text := class("field string f;", body)
		c, e := Format(text)
		if e != api.OK {
			continue
		}
		if again, e := Format(c); again != c || e != api.OK {
			t.Fatal(c, again)
		}
		_, _, e1 := Check(defs(t), text)
		_, _, e2 := Check(defs(t), c)
		if e1 != e2 {
			t.Fatal(text, e1, e2)
		}
	}
}
