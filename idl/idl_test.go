package idl

import (
	"math/rand/v2"
	"reflect"
	"slices"
	"strconv"
	"strings"
	"testing"

	"intermede/api"
)

const whole = `module M {
  interface F;
  interface I : ::A, B::C {
    struct S {
      long a;
      sequence<S,3> b;
    };
    exception X {
    };
    readonly attribute string<5> t;
    attribute any u;
    long f(in long a, out fixed<5,2> b, inout array<octet,4> c) raises (X, ::M::Y);
    oneway void g();
  };
  union U switch (long) {
    case 1: case A | 2: long x;
    default: boolean y;
  };
  enum E { A, B };
  typedef sequence<sequence<Object>> T;
  const long C = 1 + 2 * (3 - 4);
  valuetype V {
  };
  valuetype W : truncatable V {
    type t;
  };
  version M::I 1.25;
};
`

func TestLayout(t *testing.T) {
	l, line, e := Parse(whole)
	if e != api.OK || Format(l) != whole || !Valid(l) {
		t.Fatal(line, e, Format(l))
	}
	if Count(l) != 1+1+1+3+1+2+4+1+3+1+1+1+1+2+1 {
		t.Error(Count(l))
	}
	packed := strings.NewReplacer("\n", "", "{ ", "{", " }", "}", ", ", ",", " (", "(", " {", "{", "+ ", "// x\n +\t", "  ", "").Replace(whole)
	if m, line, e := Parse(packed); e != api.OK || !Equal(l, m) {
		t.Error(packed, line, e)
	}
	l, _, _ = Parse("module M{interface I:J{oneway void f(in long a);};};")
	if Format(l) != "module M {\n  interface I : J {\n    oneway void f(in long a);\n  };\n};\n" {
		t.Error(Format(l))
	}
	d := l[0].Kids[0]
	want := api.Decl{Kind: api.DInterface, Name: "I", Names: []string{"J"}, Kids: []api.Decl{{Kind: api.DOp, Name: "f", Type: "void", Flag: true, Kids: []api.Decl{{Kind: api.DParam, Name: "a", Type: "long", N: api.DIn}}}}}
	if !reflect.DeepEqual(d, want) {
		t.Error(d)
	}
	u, _, _ := Parse("union U switch(E){default:case 0x1f:long a;};")
	if !reflect.DeepEqual(u, []api.Decl{{Kind: api.DUnion, Name: "U", Type: "E", Kids: []api.Decl{{Kind: api.DMember, Name: "a", Type: "long", Names: []string{"default", "31"}}}}}) {
		t.Error(u)
	}
	if l, _, e := Parse(" // nothing\n"); len(l) != 0 || e != api.OK {
		t.Error(e)
	}
}

func TestWrong(t *testing.T) {
	for _, c := range []struct {
		s    string
		line int
	}{
		{"x", 0}, {"\n\nx", 2}, {"module", 0}, {"module\n", 0}, {"module\n\n", 1}, {"module\n M\n{\n", 2}, {"module M {\n}", 1}, {"module M\n.", 1}, {"module in {};", 0}, {"module M {} // x\n}", 1}, {"module M {\n\n};\n?", 3}, {"?", 0}, {"\n12a", 1}, {"\n\"a\n", 1}, {"const long a =\n00;", 1}, {"const long a = 0x1F;", 0}, {"const long a = 9223372036854775808;", 0}, {"const long a =\n-9223372036854775808;", 1}, {"const string a = \"" + strings.Repeat("x", 201) + "\";", 0}, {"const string a = \"\\\";", 0},
		{"struct S {\n};", 1}, {"struct S {\nvoid x;};", 1}, {"union U switch (long) {\n};", 1}, {"union U switch (long) {\nlong x;};", 1}, {"enum E {\n};", 1}, {"enum E { A,\n};", 1}, {"interface I {\nmodule M {};\n};", 1}, {"interface I {\nreadonly long a;};", 1}, {"interface I { void f(long a); };", 0}, {"interface I { void f(in long a,); };", 0}, {"interface I { oneway\noneway void f(); };", 1}, {"interface I : {};", 0}, {"valuetype V : A, B {};", 0}, {"valuetype V;", 0},
		{"version A 1;", 0}, {"version A 1.2.3;", 0}, {"typedef string<5>>\nX;", 0}, {"typedef sequence<sequence<long>\n> X;\ny", 2}, {"typedef string<8 >> 1> X;", 0}, {"typedef array<long> X;", 0}, {"typedef fixed<5> X;", 0}, {"typedef A:::B X;", 0}, {"typedef ::::B X;", 0}, {"const long " + strings.Repeat("a", 33) + " = 1;", 0}, {"void f();", 0}, {"const long a = (1;", 0}, {"const long a = 1 +;", 0}, {"const long a = 1 2;", 0},
	} {
		l, line, e := Parse(c.s)
		if e != api.ErrSyntax || line != c.line || l != nil {
			t.Errorf("%q: %d at %d", c.s, e, line)
		}
	}
	if _, line, e := Parse(strings.Repeat(" ", api.MaxText+1)); e != api.ErrLong || line != 0 {
		t.Error(e)
	}
}

func TestLimits(t *testing.T) {
	nest := func(n int, open, inner, end string) string {
		return strings.Repeat(open, n) + inner + strings.Repeat(end, n)
	}
	for i, c := range []struct {
		s    string
		want api.Errno
	}{
		{nest(10, "module M {", "", "};"), 0}, {nest(11, "module M {", "", "};"), api.ErrLimit}, {nest(9, "module M {", "enum E { A };", "};"), 0}, {nest(10, "module M {", "enum E { A };", "};"), api.ErrLimit}, {nest(11, "module M {", "", "};") + "x", api.ErrSyntax},
		{"typedef " + nest(9, "sequence<", "long", ">") + " T;", 0}, {"typedef " + nest(10, "sequence<", "long", ">") + " T;", api.ErrLimit}, {"const long C = " + nest(10, "(", "1", ")") + ";", 0}, {"const long C = " + nest(11, "(", "1", ")") + ";", api.ErrLimit}, {"const long C = " + nest(30000, "(", "1", ")") + ";", api.ErrLimit},
		{strings.Repeat("interface I;", 200), 0}, {strings.Repeat("interface I;", 201), api.ErrLimit}, {"struct S {" + strings.Repeat("long a;", 199) + "};", 0}, {"struct S {" + strings.Repeat("long a;", 200) + "};", api.ErrLimit}, {"interface I { void f(" + strings.Repeat("in long a,", 197) + "in long a); };", 0}, {"interface I { void f(" + strings.Repeat("in long a,", 198) + "in long a); };", api.ErrLimit},
	} {
		if l, line, e := Parse(c.s); e != c.want || e == api.ErrLimit && (line != 0 || l != nil) {
			t.Error(i, e, line)
		}
	}
	for i, c := range []struct {
		s    string
		want api.Errno
	}{{nest(10, "(", "1", ")"), 0}, {nest(11, "(", "1", ")"), api.ErrLimit}, {nest(11, "(", "1 / 0", ")"), api.ErrRange}} {
		if _, e := Value(c.s, nil, nil); e != c.want {
			t.Error(i, e)
		}
	}
	if _, e := Expr(nest(11, "(", "1", ")")); e != api.ErrLimit {
		t.Error(e)
	}
	if _, e := Type(nest(10, "sequence<", "long", ">")); e != api.ErrLimit {
		t.Error(e)
	}
	// A sign before a sign is written in parentheses: what could not be read again is too deep.
	for signs, want := range map[int]api.Errno{2: 0, 11: 0, 12: api.ErrLimit, 60: api.ErrLimit} {
		x := strings.Repeat("-", signs) + "1"
		form, e := Expr(x)
		again, e2 := Expr(form)
		_, e3 := Value(x, nil, nil)
		_, e4 := Type("sequence<long," + x + ">")
		l, _, e5 := Parse("const long C = 2 * " + x + ";")
		if e != want || e3 != want || e4 != want || e5 != want || want == api.OK && (e2 != api.OK || again != form || !Valid(l)) {
			t.Error(signs, e, e2, e3, e4, e5)
		}
	}
	if _, e := Paths(nest(10, "sequence<", "A", ">")); e != api.ErrLimit {
		t.Error(e)
	}
}

func TestValid(t *testing.T) {
	for i, d := range []api.Decl{
		{}, {Kind: api.DModule}, {Kind: api.DModule, Name: "in"}, {Kind: api.DModule, Name: "M", N: 1}, {Kind: api.DModule, Name: "M", Type: "long"}, {Kind: api.DMember, Name: "a", Type: "long"}, {Kind: api.DAlias, Name: "A", Type: "sequence< long>"}, {Kind: api.DAlias, Name: "A; interface B", Type: "long"}, {Kind: api.DConst, Name: "A", Type: "long", Expr: "(1)"}, {Kind: api.DConst, Name: "A", Type: "long", Expr: "0x1"}, {Kind: api.DConst, Name: "A", Type: "long", Expr: "1+1"}, {Kind: api.DForward, Name: "A", Kids: []api.Decl{{}}},
		{Kind: api.DStruct, Name: "S"}, {Kind: api.DInterface, Name: "I", Kids: []api.Decl{{Kind: api.DModule, Name: "M"}}}, {Kind: api.DVersion, Name: "A", Expr: "1"}, {Kind: 77, Name: "A"}, {Kind: api.DValue, Name: "V", Flag: true}, {Kind: api.DOp, Name: "f", Type: "void"},
	} {
		l := []api.Decl{d}
		if Valid(l) || Format(l) != "" {
			t.Error(i)
		}
		if _, e := Find(l, []string{"A"}); e != api.ErrInvalid {
			t.Error(i, e)
		}
	}
	deep := []api.Decl{{Kind: api.DModule, Name: "M"}}
	for range 30000 {
		deep = []api.Decl{{Kind: api.DModule, Name: "M", Kids: deep}}
	}
	if Valid(deep) || Count(deep) != 30001 || !Equal(deep, deep) {
		t.Error("deep")
	}
	if !Valid(nil) || Format(nil) != "" || !Equal(nil, []api.Decl{}) || Equal(nil, deep) {
		t.Error("nil")
	}
}

func TestWords(t *testing.T) {
	l, _, e := Words("a::b<<0x1f>>\"x y\"{}//c\n-~.5")
	if e != api.OK || strings.Join(l, " ") != `a :: b << 0x1f >> "x y" { } - ~ . 5` {
		t.Error(l, e)
	}
	for s, want := range map[string]int{"a\n\n$": 2, "a\n1_": 1, "\"": 0, "0x": 0, "01": 0, "a\n" + strings.Repeat("b", 33): 1, "!": 0} {
		if l, line, e := Words(s); e != api.ErrSyntax || line != want || l != nil {
			t.Errorf("%q: %d at %d", s, e, line)
		}
	}
	if _, _, e := Words(strings.Repeat(" ", api.MaxText+1)); e != api.ErrLong {
		t.Error(e)
	}
}

func TestForms(t *testing.T) {
	for s, want := range map[string]string{
		"(1+2)*3": "(1 + 2) * 3", "1+(2*3)": "1 + 2 * 3", "1-(2-3)": "1 - (2 - 3)", "(1-2)-3": "1 - 2 - 3", "- -1": "-(-1)", "-(-(1))": "-(-1)", "-~1": "-(~1)", "1 - -1": "1 - -1", "-(1+2)": "-(1 + 2)", "-1*2": "-1 * 2", "~(A::B)": "~A::B", "1|2^3&4<<5+6*7": "1 | 2 ^ 3 & 4 << 5 + 6 * 7", "((((1*2)+3)<<4)&5)^6|7": "1 * 2 + 3 << 4 & 5 ^ 6 | 7", "(1|2)^3": "(1 | 2) ^ 3", "8>>1>>2": "8 >> 1 >> 2", "8>>(1>>2)": "8 >> (1 >> 2)", "0xff": "255", "\"a b\"": `"a b"`, " :: A // c": "::A", "7%(3%2)": "7 % (3 % 2)",
	} {
		got, e := Expr(s)
		if got != want || e != api.OK {
			t.Errorf("%q: %q %d", s, got, e)
		}
		if again, e := Expr(got); again != got || e != api.OK {
			t.Errorf("%q: %q again", got, again)
		}
	}
	for s, want := range map[string]string{
		"sequence < A :: B , 3+4 >": "sequence<A::B,3 + 4>", "string<(8>>1)>": "string<(8 >> 1)>", "string<((8>>1))+1>": "string<(8 >> 1) + 1>", "string<1|(8>>1)>": "string<1 | (8 >> 1)>", "string<(1|8>>1)+2>": "string<(1 | 8 >> 1) + 2>", "string<1<<3>": "string<1 << 3>", "sequence<sequence<string<5>>>": "sequence<sequence<string<5>>>", "fixed<0x1f,(2)>": "fixed<31,2>", "array<Object,-(-1)>": "array<Object,-(-1)>", "::A": "::A", "string": "string",
	} {
		got, e := Type(s)
		if got != want || e != api.OK {
			t.Errorf("%q: %q %d", s, got, e)
		}
		if again, e := Type(got); again != got || e != api.OK {
			t.Errorf("%q: %q again", got, again)
		}
	}
	for _, s := range []string{"void", "", "long long", "sequence<void>", "string<>", "1", "sequence<long,2,3>"} {
		if _, e := Type(s); e != api.ErrSyntax {
			t.Error(s, e)
		}
	}
	for _, s := range []string{"", "long", "1 +", "(1", "A B", "1 < 2", "A::1"} {
		if _, e := Expr(s); e != api.ErrSyntax {
			t.Error(s, e)
		}
	}
	for s, want := range map[string]string{"sequence<array<A,::B + C::D>,A>": "A ::B C::D A", "1 + X * (Y - ::Z::W)": "X Y ::Z::W", "A::B": "A::B", "long": "", "5": ""} {
		if l, e := Paths(s); strings.Join(l, " ") != want || e != api.OK {
			t.Error(s, l, e)
		}
	}
	if _, e := Paths("long +"); e != api.ErrSyntax {
		t.Error(e)
	}
	long := strings.Repeat(" ", api.MaxText+1)
	_, e1 := Type(long)
	_, e2 := Expr(long)
	_, e3 := Paths(long)
	_, _, e4 := Split(long)
	_, e5 := Value(long, []string{"a"}, nil)
	if e1 != api.ErrLong || e2 != api.ErrLong || e3 != api.ErrLong || e4 != api.ErrLong || e5 != api.ErrLong {
		t.Error("long")
	}
}

func TestSplit(t *testing.T) {
	if a, l, e := Split("::A::B"); !a || !slices.Equal(l, []string{"A", "B"}) || e != api.OK {
		t.Error(a, l, e)
	}
	if a, l, e := Split("A"); a || !slices.Equal(l, []string{"A"}) || e != api.OK {
		t.Error(a, l, e)
	}
	for _, s := range []string{"", "::", "A::", "A:B", "long", "A::in", "1"} {
		if a, l, e := Split(s); a || l != nil || e != api.ErrSyntax {
			t.Error(s, e)
		}
	}
	l, _, _ := Parse("module A { module B { enum E { X }; }; }; module A { module B { typedef long E; typedef long F; }; };")
	for s, want := range map[string]int{"A": api.DModule, "A B E": api.DEnum, "A B F": api.DAlias, "A B G": 0, "B": 0, "": 0} {
		d, e := Find(l, strings.Fields(s))
		if d.Kind != want || (e == api.OK) != (want != 0) || want == 0 && e != api.ErrNone {
			t.Error(s, d, e)
		}
	}
}

func TestValue(t *testing.T) {
	names, values := []string{"A", "::B::C", "Big", "A"}, []int{3, -4, 1<<63 - 1, 9}
	for s, want := range map[string]int{"A+1": 4, ":: B::C * 2": -8, "7 / -2": -3, "-7 % 2": -1, "1 << 62": 1 << 62, "-1 << 63": -1 << 63, "-8 >> 1": -4, "~0 & 0xff": 255, "1 | 6 ^ 3": 5, "-Big - 1": -1 << 63, "(-Big - 1) % -1": 0, "+5": 5} {
		if n, e := Value(s, names, values); n != want || e != api.OK {
			t.Error(s, n, e)
		}
		c, _ := Expr(s)
		if n, e := Value(c, names, values); n != want || e != api.OK {
			t.Error(c, n, e)
		}
	}
	for s, want := range map[string]api.Errno{"A +": api.ErrSyntax, "\"x\" + D / 0": api.ErrKind, "D / 0": api.ErrName, "1 / 0": api.ErrRange, "1 % 0": api.ErrRange, "1 << 64": api.ErrRange, "1 >> -1": api.ErrRange, "1 << 63": api.ErrRange, "Big + 1": api.ErrRange, "-Big - 2": api.ErrRange, "Big * 2": api.ErrRange, "(-Big - 1) / -1": api.ErrRange, "-(-Big - 1)": api.ErrRange, "B::C": api.ErrName} {
		if n, e := Value(s, names, values); n != 0 || e != want {
			t.Error(s, n, e)
		}
	}
	if _, e := Value("\"x\"", names, nil); e != api.ErrSize {
		t.Error(e)
	}
	if _, e := Value("+", names, nil); e != api.ErrSyntax {
		t.Error(e)
	}
}

// writeExpr writes a random expression with needless blanks and parentheses.
func writeExpr(r *rand.Rand, deep int) string {
	if deep == 0 {
		return []string{"1", "A", "::B::C", "0x10", "\"t\"", "70"}[r.IntN(6)]
	}
	a, b := writeExpr(r, deep-1), writeExpr(r, r.IntN(deep))
	switch r.IntN(6) {
	case 0:
		return "(" + a + " )"
	case 1:
		return []string{"-", "+", "~"}[r.IntN(3)] + " " + a
	case 2:
		return "(" + a + ")" + []string{"|", "^", "&", "<<", ">>", "+", "-", "*", "/", "%"}[r.IntN(10)] + "(" + b + ")"
	}
	return a + []string{"|", "^", "&", "<<", "+", "-", "*", "/", "%"}[r.IntN(9)] + b
}

func TestRandom(t *testing.T) {
	r := rand.New(rand.NewPCG(7, 7))
	for range 3000 {
		s := writeExpr(r, r.IntN(5))
		c, e := Expr(s)
		again, e2 := Expr(c)
		if e != api.OK || e2 != api.OK || again != c {
			t.Fatal(s, c, again)
		}
		n, e := Value(s, []string{"A", "::B::C"}, []int{5, -9})
		m, e2 := Value(c, []string{"A", "::B::C"}, []int{5, -9})
		if n != m || e != e2 {
			t.Fatal(s, c, n, m, e, e2)
		}
		if ty, e := Type("array<long,(" + s + ")>"); e == api.OK {
			if again, e := Type(ty); e != api.OK || again != ty {
				t.Fatal(ty)
			}
		}
		p, _ := Paths(s)
		q, _ := Paths(c)
		if !slices.Equal(p, q) {
			t.Fatal(s, p, q)
		}
	}
}

func TestLines(t *testing.T) {
	r := rand.New(rand.NewPCG(8, 8))
	text, _, _ := Words(whole)
	for range 3000 {
		l := slices.Clone(text)
		i, j := r.IntN(len(l)), r.IntN(len(l))
		l[i] = l[j]
		s := ""
		for _, w := range l {
			s += w + []string{" ", "\n"}[r.IntN(2)]
		}
		decls, line, e := Parse(s)
		if e == api.OK {
			if !Valid(decls) {
				t.Fatal(s)
			}
			if again, _, e := Parse(Format(decls)); e != api.OK || !Equal(decls, again) {
				t.Fatal(s)
			}
			continue
		}
		lines := strings.SplitAfter(s, "\n")
		rest := strings.Join(lines[:line+1], "") + strconv.Itoa(r.IntN(9)) + "\n" + l[j]
		if _, again, e2 := Parse(rest); line+1 < len(lines)-1 && (e2 != api.ErrSyntax || again != line) {
			t.Fatal(rest, line, again)
		}
	}
}
