package repo

import (
	"reflect"
	"slices"
	"strings"
	"testing"

	"intermede/api"
	"intermede/copies"
	"intermede/data"
	"intermede/idl"
	"intermede/kind"
)

func read(t *testing.T, text string) []api.Def {
	t.Helper()
	defs, line, path, e := Read(text)
	if e != api.OK || line != -1 || path != "" {
		t.Fatalf("%q: %d at line %d, %q", text, e, line, path)
	}
	return defs
}

const whole = `
module N { exception Y {}; };
module M {
  interface F;
  interface A { attribute long x; readonly attribute F f; struct S { long a; }; };
  interface F { void g(in A a) ; };
  typedef A AA;
  interface B : AA { exception X { string why; }; void b(in S s, out long n) raises (X, ::N::Y); };
};
`

func TestKinds(t *testing.T) {
	for text, want := range map[string]string{
		"struct S { long a; sequence<S,3> b; array<sequence<S>,2> c; };":                                           "struct S:1.0 S{a long;b seq<ref S:1.0,3>;c array<seq<ref S:1.0>,2>;}",
		"module M { enum E { A, B }; }; typedef sequence<M::E,M::B + 4> T;":                                        "enum M/E:1.0 E{A,B}|alias T:1.0 T seq<enum M/E:1.0 E{A,B},5>",
		"union U switch (short) { case 1: case -2: long a; default: case 7: U2 b; };":                              "!5 U",
		"enum E { A, B, C }; typedef E F; union U switch (F) { case B: long a; case ::A: char b; };":               "enum E:1.0 E{A,B,C}|alias F:1.0 F enum E:1.0 E{A,B,C}|union U:1.0 U(enum E:1.0 E{A,B,C}){case 1:a long;case 0:b char;}",
		"union U switch (boolean) { default: sequence<U> a; case 1: octet b; };":                                   "union U:1.0 U(bool){default:a seq<ref U:1.0>;case 1:b octet;}",
		"exception X { fixed<5,2> a; any b; type c; Object d; string e; string<1000> f; huge g; };":                "except X:1.0 X{a fixed<5,2>;b any;c type;d object Object:1.0 Object;e text;f text<1000>;g huge;}",
		"valuetype V { V next; long n; }; valuetype W : truncatable V { W w; }; typedef W X; valuetype Y : X { };": "value V[V:1.0 2]{next ref V:1.0;n long;}|value W[V:1.0 2,W:1.0 3 t]{next value V[V:1.0 2]{next ref V:1.0;n long;};n long;w ref W:1.0;}|alias X:1.0 X value W[V:1.0 2,W:1.0 3 t]{next value V[V:1.0 2]{next ref V:1.0;n long;};n long;w ref W:1.0;}|value Y[V:1.0 2,W:1.0 3 t,Y:1.0 3]{next value V[V:1.0 2]{next ref V:1.0;n long;};n long;w value W[V:1.0 2,W:1.0 3 t]{next value V[V:1.0 2]{next ref V:1.0;n long;};n long;w ref W:1.0;};}",
		"struct S { long a; }; typedef S T; version S 2.13; version T 0.0;":                                        "struct S:2.13 S{a long;}|alias T:0.0 T struct S:2.13 S{a long;}",
		"interface I; struct S { I x; }; interface I { I me(); };":                                                 "struct S:1.0 S{x object I:1.0 I;}|object I:1.0 I",
		"module M { struct S { ::M::T a; }; };":                                                                    "!5 M::S",
		"module M { typedef long T; struct S { ::M::T a; M::T b; T c; }; };":                                       "alias M/T:1.0 T long|struct M/S:1.0 S{a alias M/T:1.0 T long;b alias M/T:1.0 T long;c alias M/T:1.0 T long;}",
		"module M { typedef long T; }; module M { typedef T U; };":                                                 "alias M/T:1.0 T long|alias M/U:1.0 U alias M/T:1.0 T long",
		"typedef long T; module M { typedef char T; module N { typedef T U; typedef ::T V; }; };":                  "alias T:1.0 T long|alias M/T:1.0 T char|alias M/N/U:1.0 U alias M/T:1.0 T char|alias M/N/V:1.0 V alias T:1.0 T long",
	} {
		defs, _, path, e := Read(text)
		var l []string
		for _, d := range defs {
			l = append(l, kind.Format(d.Type))
		}
		got := strings.Join(l, "|")
		if e != api.OK {
			got = "!" + string(rune('0'+int(e))) + " " + path
		}
		if got != want {
			t.Errorf("%s:\n%s instead of\n%s", text, got, want)
		}
	}
}

// wrongs are texts with what is wrong and the path at which it is.
var wrongs = []struct {
	s    string
	e    api.Errno
	path string
}{
	{"module M {}; struct M { long a; };", api.ErrDuplicate, "M"}, {"struct S { long a; }; module S {};", api.ErrDuplicate, "S"}, {"module M { module M {}; };", api.ErrDuplicate, "M::M"}, {"struct S { long a; long a; };", api.ErrDuplicate, "S"}, {"struct S { long S; };", api.ErrDuplicate, "S"}, {"interface I {}; interface I {};", api.ErrDuplicate, "I"}, {"interface I { void I(); };", api.ErrDuplicate, "I"}, {"interface I { void f(); attribute long f; };", api.ErrDuplicate, "I"},
	{"enum E { A, A };", api.ErrDuplicate, "E"}, {"enum E { E };", api.ErrDuplicate, "E"}, {"const long A = 1; enum E { A };", api.ErrDuplicate, "E"}, {"interface I { void f(in long a, in long a); };", api.ErrDuplicate, "I"}, {"union U switch (long) { case 1: long a; case 2 - 1: long b; };", api.ErrDuplicate, "U"}, {"union U switch (long) { default: long a; default: long b; };", api.ErrDuplicate, "U"}, {"interface A {}; typedef A B; interface C : A, B {};", api.ErrDuplicate, "C"},
	{"interface A { void f(); }; interface B : A { long f(); };", api.ErrDuplicate, "B"}, {"interface A { attribute long f; }; interface B : A {}; interface C : B { void f(); };", api.ErrDuplicate, "C"}, {"interface A { void f(); }; interface B { attribute long f; }; interface C : A, B { struct S { Q q; }; };", api.ErrDuplicate, "C"}, {"exception X {}; interface I { void f() raises (X, ::X); };", api.ErrDuplicate, "I"}, {"valuetype V { long a; }; valuetype W : V { char a; };", api.ErrDuplicate, "W"}, {"struct S { long a; }; version S 1.1; version ::S 1.2;", api.ErrDuplicate, "::S"},
	{"struct S { T a; };", api.ErrName, "S"}, {"typedef T T;", api.ErrName, "T"}, {"const long C = C;", api.ErrName, "C"}, {"struct S { T a; }; struct T { long a; };", api.ErrName, "S"}, {"interface F; interface G; interface G {};", api.ErrName, "F"}, {"module M { interface F; }; interface F {};", api.ErrName, "M::F"}, {"version S 1.0;", api.ErrName, "S"}, {"interface I {}; typedef I J; typedef J::S K;", api.ErrName, "K"}, {"enum E { A }; typedef string<E::A> S;", api.ErrName, "S"}, {"const long C = D + \"x\";", api.ErrName, "C"}, {"interface I { oneway T f(); };", api.ErrName, "I"}, {"interface I : J {};", api.ErrName, "I"},
	{"const long C = 1; typedef C D;", api.ErrKind, "D"}, {"module M {}; typedef M D;", api.ErrKind, "D"}, {"exception X {}; typedef X D;", api.ErrKind, "D"}, {"enum E { A }; typedef A D;", api.ErrKind, "D"}, {"struct S { long a; a b; };", api.ErrKind, "S"}, {"interface F; interface I : F {};", api.ErrKind, "I"}, {"interface I : I {};", api.ErrKind, "I"}, {"struct S { long a; }; interface I : S {};", api.ErrKind, "I"}, {"typedef Object O; interface I : O {};", api.ErrKind, "I"}, {"interface I {}; valuetype V : I {};", api.ErrKind, "V"}, {"valuetype V : V {};", api.ErrKind, "V"},
	{"interface I { oneway long f(); };", api.ErrKind, "I"}, {"interface I { oneway void f(out Q a); };", api.ErrKind, "I"}, {"interface I { oneway void f(inout long a); };", api.ErrKind, "I"}, {"exception X {}; interface I { oneway void f() raises (X); };", api.ErrKind, "I"}, {"interface I { oneway void f(in long a) raises (Q); };", api.ErrKind, "I"}, {"exception X {}; module M { interface I { oneway void f() raises (X, X); }; };", api.ErrKind, "M::I"}, {"interface I { oneway void f(in Q a) raises (R); };", api.ErrName, "I"}, {"interface I { oneway void f(in long a, in long a) raises (R); };", api.ErrDuplicate, "I"}, {"interface I { void f(in long a) raises (Q); };", api.ErrName, "I"}, {"struct X { long a; }; interface I { void f() raises (X); };", api.ErrKind, "I"}, {"const long C = \"x\" + D;", api.ErrKind, "C"}, {"const string C = 1 + D;", api.ErrKind, "C"}, {"const string C = \"a\" + \"b\";", api.ErrKind, "C"}, {"const string S = \"a\"; const long C = S;", api.ErrKind, "C"}, {"const long S = 1; const string C = S;", api.ErrKind, "C"}, {"struct S { long a; }; const long C = S;", api.ErrKind, "C"}, {"const any C = 1;", api.ErrKind, "C"}, {"typedef string<\"a\"> S;", api.ErrKind, "S"},
	{"union U switch (huge) { case 1: long a; };", api.ErrKind, "U"}, {"union U switch (U) { case 1: long a; };", api.ErrKind, "U"}, {"union U switch (string) { case 1: long a; };", api.ErrKind, "U"}, {"struct S { long a; }; union U switch (S) { case 1: long a; };", api.ErrKind, "U"}, {"enum E { A }; union U switch (E) { case 0: long a; };", api.ErrKind, "U"}, {"enum E { A }; enum F { B }; union U switch (E) { case B: long a; };", api.ErrKind, "U"}, {"enum E { A }; const E C = 0;", api.ErrKind, "C"}, {"enum E { A }; const E C = A; const E D = C;", api.ErrKind, "D"}, {"module M {}; version M 1.0;", api.ErrKind, "M"}, {"struct S { long a; }; version S::a 1.0;", api.ErrKind, "S::a"},
	{"interface I { oneway sequence<Q> f(); };", api.ErrKind, "I"}, {"interface I { oneway string<0> f(in Q a); };", api.ErrKind, "I"}, {"interface I { oneway Object f(in Q a) raises (R); };", api.ErrKind, "I"}, {"interface I { oneway Q f(out long a); };", api.ErrName, "I"}, {"interface I { oneway I f(in Q a); };", api.ErrKind, "I"}, {"interface I { sequence<Q> f(); };", api.ErrName, "I"},
	{"union U switch (sequence<Q>) { case 1: long a; };", api.ErrKind, "U"}, {"union U switch (string<0>) { case 1: long a; };", api.ErrKind, "U"}, {"union U switch (fixed<0,Q>) { case 1: long a; };", api.ErrKind, "U"}, {"union U switch (Q) { case 1: long a; };", api.ErrName, "U"}, {"typedef sequence<long> T; union U switch (T) { case Q: long a; };", api.ErrKind, "U"}, {"const sequence<Q> C = 1;", api.ErrKind, "C"}, {"const array<long,0> C = 1;", api.ErrKind, "C"}, {"const Q C = 1;", api.ErrName, "C"}, {"const string<0> C = 1;", api.ErrRange, "C"}, {"interface I {}; const I C = D;", api.ErrKind, "C"},
	{"const fixed<5,2> C = \"1x\";", api.ErrKind, "C"}, {"const fixed<5,2> C = \"-0\";", api.ErrKind, "C"}, {"const fixed<5,2> C = 1; const long D = C;", api.ErrKind, "D"},
	{"typedef string<0> S;", api.ErrRange, "S"}, {"typedef string<1001> S;", api.ErrRange, "S"}, {"typedef sequence<long,0> S;", api.ErrRange, "S"}, {"typedef array<long,1001> S;", api.ErrRange, "S"}, {"typedef fixed<0,Q> S;", api.ErrRange, "S"}, {"typedef fixed<32,1> S;", api.ErrRange, "S"}, {"typedef fixed<5,6> S;", api.ErrRange, "S"}, {"const octet C = 256;", api.ErrRange, "C"}, {"const boolean C = 2;", api.ErrRange, "C"}, {"const short C = -32769;", api.ErrRange, "C"}, {"const long C = 1 / 0;", api.ErrRange, "C"}, {"const huge C = 9223372036854775807 + 1;", api.ErrRange, "C"}, {"union U switch (octet) { case 256: long a; };", api.ErrRange, "U"}, {"const string<2> C = \"abc\";", api.ErrRange, "C"}, {"const fixed<5,2> C = \"1.234\";", api.ErrRange, "C"}, {"const fixed<3,2> C = 10;", api.ErrRange, "C"}, {"struct S { long a; }; version S 1000.0;", api.ErrRange, "S"}, {"struct S { long a; }; version S 1.9223372036854775807;", api.ErrRange, "S"},
	{"struct S { S a; };", api.ErrCircle, "S"}, {"struct S { array<S,2> a; };", api.ErrCircle, "S"}, {"union U switch (long) { case 1: U a; };", api.ErrCircle, "U"}, {"module M { module N { struct S { sequence<S> a; M::N::S b; }; }; };", api.ErrCircle, "M::N::S"},
	{"union U switch (boolean) { case 0: case 1: long a; default: long b; };", api.ErrLimit, "U"}, {"module abcdefghijklmnop { struct abcdefghijklm { long a; }; };", api.ErrLimit, "abcdefghijklmnop::abcdefghijklm"}, {"module abcdefghijklmnop { struct abcdefghijk { long a; }; version abcdefghijk 1.10; };", api.ErrLimit, "abcdefghijk"}, {"interface abcdefghijklmnopqrstuvwxyz123;", api.ErrLimit, "abcdefghijklmnopqrstuvwxyz123"}, {"interface I { attribute long abcdefghijklmnopqrstuvwxyz123; };", api.ErrLimit, "I"},
	{"struct S { " + many("long a#;", 25) + "};", api.ErrLimit, "S"}, {"interface I { void f(" + many("in long a#,", 24) + "in long z); };", api.ErrLimit, "I"}, {"interface I { long f(" + many("out long a#,", 23) + "out long z); };", api.ErrLimit, "I"}, {"enum E { " + many("a#,", 24) + "z };", api.ErrLimit, "E"},
	{"valuetype A {}; valuetype B : A {}; valuetype C : B {}; valuetype D : C {}; valuetype E : D {}; valuetype F : E {}; valuetype G : F {};", api.ErrLimit, "G"}, {"valuetype V { " + many("long a#;", 24) + "}; valuetype W : V { long b; };", api.ErrLimit, "W"}, {"struct S { " + many("T a#;", 3) + "};", api.ErrName, "S"},
	{"struct A {" + many("long a#;", 24) + "}; struct B {" + many("A a#;", 11) + "}; struct C { B a; A b; T c; };", api.ErrLimit, "C"},
	{"struct S { Q a; }; struct S { long a; };", api.ErrName, "S"}, {"module abcdefghijklmnop { struct abcdefghijk { long a; }; struct T { Q a; }; version abcdefghijk 1.10; };", api.ErrName, "abcdefghijklmnop::T"},
}

func many(s string, n int) string {
	out := ""
	for i := range n {
		out += strings.ReplaceAll(s, "#", string(rune('a'+i)))
	}
	return out
}

func itoa(n int) string {
	if n < 10 {
		return string(rune('0' + n))
	}
	return itoa(n/10) + itoa(n%10)
}

func TestWrong(t *testing.T) {
	for _, c := range wrongs {
		defs, line, path, e := Read(c.s)
		if e != c.e || path != c.path || defs != nil || line != -1 {
			t.Errorf("%s: %d at %q, line %d, instead of %d at %q", c.s, e, path, line, c.e, c.path)
		}
	}
	s := "typedef long T0;"
	for i := range 8 {
		s += " typedef sequence<T" + itoa(i) + "> T" + itoa(i+1) + ";"
	}
	if _, _, path, e := Read(s); e != api.ErrLimit || path != "T8" { // T7 has 16 levels
		t.Error(path, e)
	}
	if _, line, _, e := Read("\nx"); e != api.ErrSyntax || line != 1 {
		t.Error(line, e)
	}
	if _, line, _, e := Read(strings.Repeat(" ", api.MaxText+1)); e != api.ErrLong || line != 0 {
		t.Error(line, e)
	}
	if _, _, e := Check([]api.Decl{{Kind: api.DStruct, Name: "S"}}); e != api.ErrInvalid {
		t.Error(e)
	}
}

func TestConst(t *testing.T) {
	for text, want := range map[string]string{
		"const long C = 1 + 2 * 3;": "5:7", "const boolean C = 1;": "1:1", "const char C = 65;": "3:65", "const octet A = 255; const short C = A - 300;": "4:-45", "const string C = \"a b\";": `7:"a b"`, "const string A = \"x\"; const string<1> C = A;": `7:"x"`, "const fixed<5,2> C = \"1.5\";": `8:"1.50"`, "const fixed<5,0> C = 3 * -4;": `8:"-12"`, "const string A = \"2\"; const fixed<3,1> C = A;": `8:"2.0"`, "const fixed<3,1> A = 7; const fixed<5,2> C = A;": `8:"7.00"`, "enum E { A, B }; const E C = ::B;": "9:1", "enum E { A, B }; const long C = B + 1;": "5:2", "typedef long T; const T C = -5;": "5:-5", "module C { enum E { A, B }; }; const C::E D = C::B;": "",
		"const huge C = -9223372036854775807 - 1;": "6:-9223372036854775808", "interface I { const long C = 3; }; interface J : I { const long D = C; }; const long C = J::C + J::D;": "5:6", "const string C = \"\";": "7:",
	} {
		defs := read(t, text)
		d, e := Const(defs, "C")
		got := data.Format(api.Graph{Root: d})
		if want == "" && (e != api.ErrNone) || want != "" && (got != want || e != api.OK) {
			t.Error(text, got, e)
		}
		if !Valid(defs) {
			t.Error(text, "is not valid")
		}
	}
	if _, e := Const(read(t, "struct C { long a; };"), "C"); e != api.ErrKind {
		t.Error(e)
	}
}

func TestInterfaces(t *testing.T) {
	defs := read(t, whole)
	var l []string
	for _, d := range defs {
		l = append(l, d.ID)
	}
	if s := strings.Join(l, " "); s != "N/Y:1.0 M/A:1.0 M/A/S:1.0 M/F:1.0 M/AA:1.0 M/B:1.0 M/B/X:1.0" {
		t.Error(s)
	}
}

const faces = `
interface A { void a(); attribute long x; typedef long T; };
interface B : A { void b(); };
interface C : A { readonly attribute string y; T c(in string<T2> p, inout A q); };
interface D : B, C { oneway void d(in T t); };
struct S { long n; };
valuetype V { S s; };
`

func names(ops []api.Op) string {
	var l []string
	for _, op := range ops {
		l = append(l, op.Name)
	}
	return strings.Join(l, " ")
}

func TestFaces(t *testing.T) {
	text := strings.Replace(faces, "T2", "5", 1)
	defs := read(t, text)
	if ops, e := Ops(defs, "D:1.0"); names(ops) != "_get_y c a _get_x _set_x b d" || e != api.OK {
		t.Error(names(ops), e)
	}
	if l, e := Bases(defs, "D:1.0"); strings.Join(l, " ") != "B:1.0 A:1.0 C:1.0" || e != api.OK {
		t.Error(l, e)
	}
	if l, e := Derived(defs, "A:1.0"); strings.Join(l, " ") != "A:1.0 B:1.0 C:1.0 D:1.0" || e != api.OK {
		t.Error(l, e)
	}
	for _, c := range []struct {
		id, base string
		is       bool
		e        api.Errno
	}{{"D:1.0", "A:1.0", true, 0}, {"A:1.0", "D:1.0", false, 0}, {"A:1.0", "A:1.0", true, 0}, {"A:1.0", "Object:1.0", true, 0}, {"A:1.0", "X", false, 0}, {"X", "A:1.0", false, api.ErrNone}, {"Object:1.0", "Object:1.0", false, api.ErrNone}, {"S:1.0", "S:1.0", false, api.ErrKind}} {
		if is, e := IsA(defs, c.id, c.base); is != c.is || e != c.e {
			t.Error(c, is, e)
		}
	}
	if op, e := Op(defs, "D:1.0", "_set_x"); e != api.OK || len(op.Params) != 1 || op.Params[0].Name != "value" || op.Params[0].Way != api.DIn || op.Result.Kind != api.TVoid {
		t.Error(op, e)
	}
	if op, e := Op(defs, "C:1.0", "c"); e != api.OK || kind.Format(op.Result) != "alias A/T:1.0 T long" || kind.Format(op.Params[0].Type) != "text<5>" || op.Params[1].Way != api.DInout {
		t.Error(op, e)
	}
	if op, e := Op(defs, "D:1.0", "d"); e != api.OK || !op.Oneway {
		t.Error(e)
	}
	for id, want := range map[string]api.Errno{"A:1.0": api.ErrName, "S:1.0": api.ErrKind, "Q": api.ErrNone, "Object:1.0": api.ErrNone} {
		_, e := Op(defs, id, "zzz")
		_, e2 := Ops(defs, id)
		_, e3 := Bases(defs, id)
		_, e4 := Derived(defs, id)
		if e != want || want != api.ErrName && (e2 != want || e3 != want || e4 != want) {
			t.Error(id, e, e2, e3, e4)
		}
	}
	if l, e := Known(defs); len(l) != 1 || l[0].ID != "V:1.0" || e != api.OK {
		t.Error(l, e)
	}
	if _, e := Known(read(t, many("valuetype V# {};", 25))); e != api.ErrLimit {
		t.Error(e)
	}
	for path, want := range map[string]string{"": "A B C D S V", "A": "A::T", "B": ""} {
		if l, e := Contents(defs, path); strings.Join(l, " ") != want || e != api.OK {
			t.Error(path, l, e)
		}
	}
	if l, e := Contents(read(t, "module M { module N { enum E { A }; }; };"), "M"); len(l) != 0 || e != api.OK {
		t.Error(l, e)
	}
	for _, path := range []string{"S", "A::T", "Q", "::A"} {
		if _, e := Contents(defs, path); e != api.ErrNone {
			t.Error(path, e)
		}
	}
}

func TestAccepts(t *testing.T) {
	old := "struct S { long a; }; exception X { S s; }; exception Y {}; interface I { S f(in long a) raises (X, Y); };"
	for text, want := range map[string]bool{
		old: true, old + " version I 2.0; version S 3.0; version X 1.5;": true, strings.Replace(old, "in long a", "in long b", 1): true, strings.Replace(old, "X, Y", "Y, X", 1): true, strings.Replace(old, "};", "}; ", 1) + " interface J : I {};": true,
		strings.Replace(old, "S f(", "void g(); S f(", 1): true, strings.Replace(old, "in long a", "in char a", 1): false, strings.Replace(old, "in long a", "inout long a", 1): false, strings.Replace(old, "X, Y", "X", 1): false, strings.Replace(old, "S f", "S g", 1): false, strings.Replace(old, "long a; }", "long b; }", 1): true, strings.Replace(old, "long a; }", "char a; }", 1): false,
		"struct S { long a; }; exception X { S s; }; exception Y {}; interface K { S f(in long a) raises (X, Y); }; interface I : K {};": true,
	} {
		if got, e := Accepts(read(t, old), read(t, text), "I:1.0"); got != want || e != api.OK {
			t.Error(text, got, e)
		}
	}
	a := read(t, old)
	for i, c := range []struct {
		l    []api.Def
		id   string
		want api.Errno
	}{{a, "Q", api.ErrNone}, {read(t, "interface J {};"), "I:1.0", api.ErrNone}, {read(t, "struct I { long a; };"), "I:1.0", api.ErrKind}, {a, "S:1.0", api.ErrKind}, {[]api.Def{{}}, "I:1.0", api.ErrInvalid}} {
		if _, e := Accepts(a, c.l, c.id); e != c.want {
			t.Error(i, e)
		}
	}
	x, _ := Op(a, "I:1.0", "f")
	y, _ := Op(a, "I:1.0", "f")
	y.Params[0].Name = "z"
	y.Raises[0], y.Raises[1] = y.Raises[1], y.Raises[0]
	if !SameOp(x, y) {
		t.Error("SameOp")
	}
	y.Raises[1] = y.Raises[0]
	if SameOp(x, y) || SameOp(x, api.Op{}) || SameOp(api.Op{Result: api.Type{Kind: 99}}, api.Op{Result: api.Type{Kind: 99}}) {
		t.Error("SameOp of others")
	}
}

func TestValid(t *testing.T) {
	texts := []string{"", faces, "interface I; struct S { I x; sequence<S> y; }; interface I { S f(); struct T { S s; }; };", "union U switch (huge) { case 1: long a; };", "enum E { A, B }; module M { enum F { C, D }; interface I { enum G { K, L }; union W switch (G) { case L: ::E a; }; }; union U switch (F) { case D: default: E a; case C: sequence<U> b; }; const F X = C; const huge Z = -9223372036854775807 - 1; const string Y = \"q r\"; };"}
	texts = append(texts, "exception X { any a; }; interface I { attribute long a; readonly attribute char b; oneway void f(in Object o); void g() raises (X); }; version I 7.8; version X 0.9; valuetype V { V a; sequence<V> b; }; valuetype W : truncatable V { W c; }; const fixed<4,2> F = \"-1.5\";")
	texts[1] = strings.Replace(faces, "T2", "5", 1)
	seen := map[string]bool{}
	for _, text := range texts {
		defs, _, _, e := Read(text)
		if e != api.OK {
			continue
		}
		if !Valid(defs) || seen[Format(defs)] || Format(defs) == "" {
			t.Error(text)
		}
		seen[Format(defs)] = true
		l, _, _ := idl.Parse(text)
		l, _, _ = idl.Parse(idl.Format(l))
		if again, _, e := Check(l); e != api.OK || !reflect.DeepEqual(defs, again) {
			t.Error(text, "again")
		}
		for _, d := range defs {
			if x, e := Find(defs, d.ID); e != api.OK || !reflect.DeepEqual(x, d) {
				t.Error(d.ID, e)
			}
			if x, e := Path(defs, d.Path); e != api.OK || !reflect.DeepEqual(x, d) {
				t.Error(d.Path, e)
			}
			if !kind.Valid(d.Type) {
				t.Error(d.ID)
			}
		}
		changes(t, defs)
	}
}

// TestOtherTypes asks that no definition is valid with the kind or the type of one of another kind.
func TestOtherTypes(t *testing.T) {
	defs, _, _, e := Read("enum E { A, B }; struct S { long a; }; union U switch (E) { case A: long x; }; typedef E T; const E C = B; exception X { long a; }; valuetype V { long a; }; interface I {}; exception Y {}; valuetype W {};")
	if e != api.OK || !Valid(defs) {
		t.Fatal(e)
	}
	types := []api.Type{{}, {Kind: api.TText, N: 3}, {Kind: api.TSeq, Kids: []api.Type{{Kind: api.TLong}}}}
	for _, d := range defs {
		types = append(types, d.Type)
	}
	for i, d := range defs {
		for kind := range api.DVersion + 2 {
			l := slices.Clone(defs)
			l[i].Kind = kind
			if Valid(l) != (kind == d.Kind) {
				t.Error(d.Path, kind)
			}
			for j, x := range types {
				l[i].Type = x
				if Valid(l) && kind != d.Kind {
					t.Error(d.Path, kind, j)
				}
			}
		}
	}
}

// changes asks that definitions that were changed are not valid.
func changes(t *testing.T, defs []api.Def) {
	for i := range defs {
		for j, change := range []func(*api.Def){
			func(d *api.Def) { d.ID = "x:1.0" }, func(d *api.Def) { d.Path += "x" }, func(d *api.Def) { d.Kind = 99 }, func(d *api.Def) { d.Type.Name += "x" }, func(d *api.Def) { d.Bases = append(d.Bases, "x") }, func(d *api.Def) { d.Value.S += "\n" }, func(d *api.Def) { d.Ops = append(d.Ops, api.Op{Name: "in"}) }, func(d *api.Def) { d.Type.N++ },
			func(d *api.Def) {
				d.Ops = append(d.Ops, api.Op{Name: "_set_q", Params: []api.Param{{Name: "value", Way: 1, Type: api.Type{Kind: api.TLong}}}})
			},
		} {
			l := append([]api.Def(nil), defs...)
			l[i] = copies.Def(l[i])
			isConst := l[i].Kind == api.DConst && j == 7 // a bound may be another one
			change(&l[i])
			if !isConst && l[i].Type.Kind != api.TAlias && Valid(l) {
				t.Error(defs[i].ID, j)
			}
			if _, e := Find(l, "y"); !isConst && l[i].Type.Kind != api.TAlias && e != api.ErrInvalid || Format(l) != "" && !Valid(l) {
				t.Error(defs[i].ID, j, e)
			}
		}
	}
	if len(defs) > 1 {
		if Valid(append(append([]api.Def(nil), defs...), defs[0])) {
			t.Error("twice")
		}
	}
}

func TestOrders(t *testing.T) {
	defs := read(t, strings.Replace(faces, "T2", "5", 1))
	for _, a := range []string{"A:1.0", "B:1.0", "C:1.0", "D:1.0"} {
		for _, b := range []string{"A:1.0", "B:1.0", "C:1.0", "D:1.0"} {
			ab, _ := IsA(defs, a, b)
			ba, _ := IsA(defs, b, a)
			if ab && ba && a != b {
				t.Error("circle", a, b)
			}
			l, _ := Bases(defs, a)
			in := false
			for _, x := range l {
				in = in || x == b
			}
			if ab != (in || a == b) {
				t.Error("bases", a, b)
			}
			if ops, _ := Ops(defs, a); ab {
				have := " " + names(ops) + " "
				base, _ := Ops(defs, b)
				for _, op := range base {
					if strings.Count(have, " "+op.Name+" ") != 1 {
						t.Error(a, b, op.Name)
					}
				}
			}
		}
	}
}

func TestApart(t *testing.T) {
	defs := read(t, strings.Replace(faces, "T2", "5", 1))
	before := Format(defs)
	d, _ := Find(defs, "C:1.0")
	d.Bases[0], d.Ops[0].Name = "x", "x"
	s, _ := Find(defs, "S:1.0")
	s.Type.Names[0] = "z"
	l, _ := Known(defs)
	l[0].Kids[0].Names[0] = "z"
	ops, _ := Ops(defs, "C:1.0")
	ops[4].Params[0].Name = "z"
	if Format(defs) != before {
		t.Error("shared")
	}
}
