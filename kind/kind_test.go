package kind_test

import (
	"reflect"
	"slices"
	"strings"
	"testing"

	"intermede/api"
	"intermede/kind"
	"intermede/sample"
)

func parse(t *testing.T, s string) api.Type {
	t.Helper()
	x, at, e := kind.Parse(s)
	if e != api.OK {
		t.Fatalf("%q: %d at %d", s, e, at)
	}
	return x
}

var right = []string{
	"void", "bool", "octet", "char", "short", "long", "huge", "any", "type", "text", "text<1000>", "fixed<31,0>", "fixed<5,5>",
	"enum e1 E{A}", "struct s1 S{n long;next seq<ref s1>;}", "except x1 X{}", "except x1 X{a long;}", "seq<long>", "seq<seq<octet>,5>", "array<bool,1000>", "alias a1 A alias a2 A long",
	"object M/I:1.0 I", "value V[v1 0]{}", "value V[v1 1,v2 1 t,v3 2]{a ref v3;b long;}", "value V[v1 1]{a struct s1 S{b ref v1;};}",
	"union u1 U(bool){case 1:a long;}", "union u1 U(bool){case 0,1:a long;}", "union u1 U(octet){default:a long;}", "union u1 U(enum e1 E{A,B}){case 1,default:a long;}",
	"union u1 U(short){case -32768,0:a long;default:b text;case 5:c seq<ref u1>;}", "struct s1 S{a enum s2 E{A};b enum s2 E{B};}",
	"struct s1 S{a seq<struct s2 S{b ref s1;}>;}", "seq<alias a1 A alias a2 B struct s1 S{a seq<alias a3 C ref s1>;}>",
}

// wrong are texts with the place at which they are wrong; -1: by validity alone, or as they end too early.
var wrong = []struct {
	s  string
	at int
}{
	{"", 0}, {"x", 0}, {"voidx", 4}, {"tex", -1}, {"texx", 3}, {"text ", 4}, {"text<", -1}, {"text<01>", 6}, {"text<0>", -1}, {"text<1001>", -1}, {"text<-1>", 5}, {"text<99999999999999999999>", -1}, {"fixed<0,0>", -1}, {"fixed<3,4>", -1}, {"fixed<32,1>", -1}, {"fixed<3>", 7},
	{"seq<void>", -1}, {"seq<except x1 X{}>", -1}, {"seq<long,0>", -1}, {"seq<long,1001>", -1}, {"array<long,0>", -1}, {"array<long>", 10}, {"seq<long>>", 9},
	{"enum e1 E{}", -1}, {"enum e1 E{A,A}", -1}, {"enum e1 E{A,}", 12}, {"enum  e1 E{A}", 5}, {"enum e1 1{A}", 8}, {"enum e;1 E{A}", 6}, {"enum e1 " + strings.Repeat("E", 33) + "{A}", -1},
	{"struct s1 S{}", -1}, {"struct s1 S{a long}", 18}, {"struct s1 S{a long;a long;}", -1}, {"struct s1 S{n long;next ref s1;}", -1}, {"seq<struct s1 S{a ref s1;}>", -1}, {"struct s1 S{a struct s1 S{b long;};}", -1}, {"struct s1 S{a enum s1 E{A};}", -1}, {"struct s1 S{a object s1 I;}", -1},
	{"except x1 X{a seq<ref x1>;}", -1}, {"alias a1 A seq<ref a1>", -1}, {"ref s1", -1}, {"ref ", -1}, {"alias a1 A alias a1 A long", -1}, {"alias a1 A void", -1},
	{"union u1 U(bool){}", -1}, {"union u1 U(huge){case 1:a long;}", -1}, {"union u1 U(text){default:a long;}", -1}, {"union u1 U(alias a1 A bool){case 1:a long;}", -1}, {"union u1 U(bool){case 2:a long;}", -1}, {"union u1 U(bool){case 1,1:a long;}", -1}, {"union u1 U(bool){case 1:a long;case 1:b long;}", -1},
	{"union u1 U(bool){case 0,1:a long;default:b long;}", -1}, {"union u1 U(bool){case 0,1,default:a long;}", -1}, {"union u1 U(enum e1 E{A}){case 0:a long;default:b long;}", -1}, {"union u1 U(octet){default:a long;default:b long;}", -1}, {"union u1 U(bool){case default:a long;}", 22}, {"union u1 U(bool){case 1,default,0:a long;}", 31}, {"union u1 U(bool){case -0:a long;}", -1}, {"union u1 U(bool){a long;}", 17},
	{"value V[]{}", -1}, {"value V[v1 1]{}", -1}, {"value V[v1 0 t]{}", -1}, {"value V[v1 0,v1 0]{}", -1}, {"value V[v1 1,v2 0]{}", -1}, {"value V[v1 0 x]{}", 13}, {"value V[a 0,b 0,c 0,d 0,e 0,f 0,g 0]{}", -1}, {"value V[v1 1]{a value V[v1 0]{};}", -1},
}

func TestValid(t *testing.T) {
	for _, s := range right {
		x := parse(t, s)
		if !kind.Valid(x) || kind.Format(x) != s {
			t.Errorf("%q: %q", s, kind.Format(x))
		}
	}
	for _, c := range wrong {
		at := c.at
		if at < 0 {
			at = len(c.s)
		}
		if x, n, e := kind.Parse(c.s); n != at || e != api.ErrSyntax || !reflect.DeepEqual(x, api.Type{}) {
			t.Errorf("%q: %d at %d", c.s, e, n)
		}
	}
	if _, at, e := kind.Parse(strings.Repeat("x", api.MaxText+1)); e != api.ErrLong || at != 0 {
		t.Error(e)
	}
	if _, at, e := kind.Parse(strings.Repeat("seq<", 16000)); e != api.ErrSyntax || at != 64000 {
		t.Error(e, at)
	}
}

func TestFields(t *testing.T) {
	long := api.Type{Kind: api.TLong}
	for i, x := range []api.Type{
		{Kind: -1}, {Kind: 21}, {Kind: api.TLong, N: 1}, {Kind: api.TLong, ID: "a"}, {Kind: api.TText, M: 1}, {Kind: api.TSeq}, {Kind: api.TSeq, Kids: []api.Type{long, long}}, {Kind: api.TEnum, ID: "a", Name: "A", Names: []string{"A"}, N: 1},
		{Kind: api.TStruct, ID: "a", Name: "A", Names: []string{"a"}, Kids: []api.Type{long, long}}, {Kind: api.TStruct, ID: "a", Name: "A", Names: []string{"a"}, Kids: []api.Type{long}, Labels: [][]int{{1}}}, {Kind: api.TUnion, ID: "a", Name: "A"}, {Kind: api.TValue, ID: "b", Name: "A", Chain: []api.Part{{ID: "a"}}}, {Kind: api.TAny, Chain: []api.Part{{}}},
	} {
		if kind.Valid(x) {
			t.Error(i)
		}
	}
	x := long
	for range 15 {
		x = api.Type{Kind: api.TSeq, Kids: []api.Type{x}}
	}
	if !kind.Valid(x) || kind.Depth(x) != 16 || kind.Size(x) != 16 || kind.Valid(api.Type{Kind: api.TSeq, Kids: []api.Type{x}}) {
		t.Error("levels")
	}
	names := strings.Split("a,b,c,d,e,f,g,h,i,j,k,l,m,n,o,p,q,r,s,t,u,v,w", ",")
	wide := api.Type{Kind: api.TStruct, ID: "w", Name: "W", Names: names}
	for i := range names {
		kid := api.Type{Kind: api.TStruct, ID: "k", Name: "K", Names: names[:12]}
		for range 12 {
			kid.Kids = append(kid.Kids, long)
		}
		if i > 0 {
			wide.Kids = append(wide.Kids, kid)
		}
	}
	wide.Kids = append(wide.Kids, api.Type{Kind: api.TSeq, Kids: []api.Type{{Kind: api.TSeq, Kids: []api.Type{{Kind: api.TSeq, Kids: []api.Type{{Kind: api.TArray, N: 1, Kids: []api.Type{long}}}}}}}})
	if !kind.Valid(wide) || kind.Size(wide) != 292 { // 1 + 22 * 13 + 5
		t.Error("parts", kind.Size(wide))
	}
	wide.Kids[0].Kids = append(wide.Kids[0].Kids, parse(t, "struct q Q{a long;b long;c long;d long;e long;f long;g long;h long;}"))
	wide.Kids[0].Names = names[:13]
	if kind.Valid(wide) || kind.Size(wide) != 0 || kind.Depth(wide) != 0 {
		t.Error("301 parts")
	}
	many := api.Type{Kind: api.TUnion, ID: "u", Name: "U", N: -1, Names: []string{"a"}, Kids: []api.Type{long, long}, Labels: [][]int{make([]int, 256)}}
	for i := range 256 {
		many.Labels[0][i] = i
	}
	if !kind.Valid(many) {
		t.Error("256 labels")
	}
	many.Labels[0] = append(many.Labels[0], 256)
	if kind.Valid(many) {
		t.Error("257 labels")
	}
}

func TestNames(t *testing.T) {
	for s, want := range map[string]bool{"a": true, "A_1": true, "": false, "_a": false, "1a": false, "a-": false, strings.Repeat("a", 32): true, strings.Repeat("a", 33): false, "ä": false} {
		if kind.Name(s) != want {
			t.Error(s)
		}
	}
	for s, want := range map[string]bool{"M/I:1.0": true, "~": true, "{[(<": true, "": false, "a b": false, "a]": false, "a,": false, "a}": false, "a;": false, "a>": false, "\x7f": false, strings.Repeat("a", 33): false} {
		if kind.ID(s) != want {
			t.Error(s)
		}
	}
}

func TestCompare(t *testing.T) {
	for _, c := range []struct {
		a, b                string
		equal, alike, there bool
	}{
		{"long", "long", true, true, true}, {"long", "alias a1 A long", false, true, true}, {"struct s1 S{a long;}", "struct s1 T{b alias a1 A long;}", false, true, true}, {"struct s1 S{a long;}", "struct s2 S{a long;}", false, false, false},
		{"enum e1 E{A}", "enum e1 F{B}", false, true, true}, {"enum e1 E{A}", "enum e1 E{A,B}", false, false, false}, {"value V[v1 0]{}", "value W[v1 1]{a long;}", false, true, true},
		{"value V[a 0,b 0]{}", "value V[a 0]{}", false, false, true}, {"value V[a 0]{}", "value V[a 0,b 0]{}", false, false, false}, {"seq<value V[a 0,b 0]{}>", "seq<value V[a 0]{}>", false, false, false},
		{"text<5>", "text<6>", false, false, true}, {"text<6>", "text<5>", false, false, false}, {"text<5>", "text", false, false, true}, {"text", "text<5>", false, false, false}, {"alias a A text<5>", "alias b B text", false, false, true},
		{"seq<long,2>", "seq<long>", false, false, true}, {"seq<long>", "seq<long,2>", false, false, false}, {"seq<text<1>>", "seq<text>", false, false, false}, {"fixed<5,2>", "fixed<6,3>", false, false, true}, {"fixed<5,2>", "fixed<6,4>", false, false, false}, {"fixed<5,2>", "fixed<9,1>", false, false, false},
		{"array<long,1>", "array<long,2>", false, false, false}, {"object a I", "object a J", false, true, true}, {"object a I", "object b I", false, false, false}, {"union u U(octet){case 1:a long;}", "union u U(octet){case 2:a long;}", false, false, false},
		{"value V[v 1]{a struct s S{b ref v;};}", "value V[v 1]{a struct s S{c value X[v 0]{};};}", false, true, true}, {"struct t T{x value V[v 1]{a ref v;};}", "struct t T{x value V[v 0]{};}", false, true, true},
	} {
		var a, b api.Type
		if c.a != "value V[v 1]{a struct s S{b ref v;};}" {
			a, b = parse(t, c.a), parse(t, c.b)
		} else {
			a, b = parse(t, c.a), parse(t, c.a)
			b.Name = "X"
		}
		if kind.Equal(a, b) != c.equal || kind.Equivalent(a, b) != c.alike || kind.Compatible(a, b) != c.there {
			t.Error(c.a, c.b, kind.Equal(a, b), kind.Equivalent(a, b), kind.Compatible(a, b))
		}
	}
	bad := api.Type{Kind: api.TSeq}
	if kind.Equal(bad, bad) || kind.Equivalent(bad, bad) || kind.Compatible(bad, bad) {
		t.Error("not valid")
	}
}

func TestUnfold(t *testing.T) {
	show := func(x api.Type, e api.Errno) string {
		if e != api.OK {
			return "!"
		}
		return kind.Format(x)
	}
	for s, want := range map[string]string{
		"long": "long", "struct s S{a seq<ref s>;}": "", "alias a A struct s S{a seq<ref s>;}": "alias a A struct s S{a seq<ref s>;}",
	} {
		if got := show(kind.Unfold(parse(t, s))); got != want {
			t.Error(s, got)
		}
	}
	x, e := kind.Unfold(parse(t, "struct s S{a seq<ref s>;b seq<struct r R{c seq<ref r>;d ref s;}>;}"))
	if e != api.OK || x.Kids[0].Kids[0].Kids[0].Kids[0].Kind != api.TRef || x.Kids[0].Kids[0].Kind != api.TStruct || x.Kids[1].Kids[0].Kids[0].Kids[0].Kind != api.TRef || kind.Valid(x) {
		t.Error(x)
	}
	big := api.Type{Kind: api.TStruct, ID: "s", Name: "S"}
	for i := range 20 {
		big.Names = append(big.Names, "m"+string(rune('a'+i)))
		big.Kids = append(big.Kids, api.Type{Kind: api.TSeq, Kids: []api.Type{{Kind: api.TRef, ID: "s"}}})
	}
	if _, e := kind.Unfold(big); e != api.ErrLimit {
		t.Error(e)
	}
	deep := api.Type{Kind: api.TRef, ID: "s"}
	for range 9 {
		deep = api.Type{Kind: api.TSeq, Kids: []api.Type{deep}}
	}
	if _, e := kind.Unfold(api.Type{Kind: api.TStruct, ID: "s", Name: "S", Names: []string{"a"}, Kids: []api.Type{deep}}); e != api.ErrLimit {
		t.Error(e)
	}
	if _, e := kind.Unfold(api.Type{Kind: 99}); e != api.ErrInvalid {
		t.Error(e)
	}
	if got := show(kind.Plain(parse(t, "alias a A seq<alias b B struct s S{a alias c C alias d D seq<alias e E ref s>;}>"))); got != "seq<struct s S{a seq<ref s>;}>" {
		t.Error(got)
	}
	if got := show(kind.Bare(parse(t, "alias a A alias b B seq<alias c C long>"))); got != "seq<alias c C long>" {
		t.Error(got)
	}
	v := parse(t, "value V[v 1]{a ref v;}")
	if x, e := kind.Unfold(v); e != api.OK || x.Kids[0].Kind != api.TValue || x.Kids[0].Kids[0].Kind != api.TRef {
		t.Error(x)
	}
}

func TestMembers(t *testing.T) {
	for _, c := range []struct {
		s, name string
		i       int
		want    string
		e       api.Errno
	}{
		{"alias a A struct s S{a long;b seq<ref s>;}", "b", 1, "seq<struct s S{a long;b seq<ref s>;}>", 0}, {"union u U(bool){case 1:a text;}", "a", 0, "text", 0}, {"except x X{a long;}", "a", 0, "long", 0}, {"value V[v 1]{a ref v;}", "a", 0, "value V[v 1]{a ref v;}", 0},
		{"long", "a", 0, "", api.ErrKind}, {"enum e E{A}", "A", 0, "", api.ErrKind}, {"struct s S{a long;}", "b", 0, "", api.ErrName}, {"struct s S{a struct r R{b seq<ref s>;};}", "a", 0, "", api.ErrLimit}, {"seq<void>", "a", 0, "", api.ErrInvalid},
	} {
		x, _, e := kind.Parse(c.s)
		if e != api.OK {
			x = api.Type{Kind: api.TSeq}
		}
		i, m, e := kind.Member(x, c.name)
		if i != c.i || kind.Format(m) != c.want && c.e == 0 || e != c.e {
			t.Error(c.s, i, kind.Format(m), e)
		}
	}
	for _, c := range []struct {
		s              string
		tag, i, free   int
		chosen, freely api.Errno
	}{
		{"union u1 U(bool){case 1:a long;}", 1, 0, 0, 0, 0}, {"union u1 U(bool){case 1:a long;}", 0, 0, 0, api.ErrNone, 0}, {"union u1 U(bool){case 0,1:a long;}", 2, 0, 0, api.ErrRange, api.ErrNone}, {"alias a A union u1 U(short){case 0,1,-5:a long;default:b long;}", 7, 1, 2, 0, 0}, {"union u1 U(enum e E{A,B}){case 0,default:a long;}", 1, 0, 1, 0, 0}, {"long", 1, 0, 0, api.ErrKind, api.ErrKind},
	} {
		x := parse(t, c.s)
		i, e := kind.Chosen(x, c.tag)
		f, e2 := kind.Free(x)
		if i != c.i || e != c.chosen || f != c.free || e2 != c.freely {
			t.Error(c.s, i, e, f, e2)
		}
	}
	if _, e := kind.Chosen(api.Type{Kind: api.TUnion}, 0); e != api.ErrInvalid {
		t.Error(e)
	}
	if _, e := kind.Free(api.Type{Kind: api.TUnion}); e != api.ErrInvalid {
		t.Error(e)
	}
	for _, c := range []struct {
		s    string
		n    int
		want bool
	}{{"bool", 2, false}, {"bool", 1, true}, {"char", 255, true}, {"octet", 256, false}, {"octet", -1, false}, {"short", -32768, true}, {"short", 32768, false}, {"long", 1 << 31, false}, {"huge", -1 << 63, true}, {"enum e E{A,B}", 1, true}, {"enum e E{A,B}", 2, false}, {"alias a A enum e E{A,B}", 1, true}, {"text", 0, false}} {
		if kind.Fits(parse(t, c.s), c.n) != c.want {
			t.Error(c.s, c.n)
		}
	}
}

func TestIDs(t *testing.T) {
	x := parse(t, "struct s S{a seq<ref s>;b value V[c 0,d 0]{};e enum b E{A};f alias a A object b I;}")
	if ids, e := kind.IDs(x); e != api.OK || strings.Join(ids, " ") != "a b c d s" {
		t.Error(ids)
	}
	if _, e := kind.IDs(api.Type{Kind: api.TRef}); e != api.ErrInvalid {
		t.Error(e)
	}
	if !kind.Has(x, api.TRef) || !kind.Has(x, api.TStruct) || kind.Has(x, api.TLong) || kind.Has(api.Type{Kind: api.TRef}, api.TRef) {
		t.Error("Has")
	}
	if kind.Size(x) != 7 || kind.Depth(x) != 3 {
		t.Error(kind.Size(x), kind.Depth(x))
	}
}

func TestRandom(t *testing.T) {
	s := sample.New(1)
	var all []api.Type
	for range 300 {
		known := s.Known()
		x := s.Type(known)
		all = append(all, x, known[0])
		text := kind.Format(x)
		if y, _, e := kind.Parse(text); e != api.OK || !kind.Equal(x, y) {
			t.Fatal(text, e)
		}
		p, e := kind.Plain(x)
		if e != api.OK || !kind.Equivalent(p, x) || kind.Has(p, api.TAlias) {
			t.Fatal("plain", text)
		}
		if q, _ := kind.Plain(p); !kind.Equal(p, q) {
			t.Fatal("plain twice", text)
		}
		if u, e := kind.Unfold(x); e == api.OK && kind.Valid(u) {
			a, _ := kind.IDs(x)
			b, _ := kind.IDs(u)
			if !slices.Equal(a, b) {
				t.Fatal("unfolded", text)
			}
		}
		cut(t, s, text)
		tags(t, x)
	}
	for _, a := range all[:60] {
		for _, b := range all[:60] {
			if kind.Equal(a, b) != (kind.Format(a) == kind.Format(b)) || kind.Equal(a, b) && !kind.Equivalent(a, b) || kind.Equivalent(a, b) != kind.Equivalent(b, a) {
				t.Fatal("equal")
			}
		}
		if !kind.Compatible(a, a) {
			t.Fatal("compatible")
		}
	}
}

// cut asks that the beginnings of a type's text are such, and that nothing right begins with what is wrong.
func cut(t *testing.T, s *sample.Source, text string) {
	for range 5 {
		i := s.Int(len(text))
		if _, at, e := kind.Parse(text[:i]); e != api.ErrSyntax || at != i {
			if e != api.OK {
				t.Fatalf("%q: %d", text[:i], at)
			}
		}
		other := text[:i] + s.Text("abs<>,{}; 01", 3) + text[i:]
		_, at, e := kind.Parse(other)
		if e == api.ErrSyntax && at < len(other) {
			if _, again, e := kind.Parse(other[:at+1]); e != api.ErrSyntax || again != at {
				t.Fatalf("%q: %d, then %d", other, at, again)
			}
			if _, before, e := kind.Parse(other[:at]); e == api.ErrSyntax && before != at {
				t.Fatalf("%q: %d, then %d", other, at, before)
			}
		}
	}
}

func tags(t *testing.T, x api.Type) {
	b, _ := kind.Bare(x)
	if b.Kind != api.TUnion {
		return
	}
	for i, labels := range b.Labels {
		for _, label := range labels {
			if j, e := kind.Chosen(x, label); j != i || e != api.OK {
				t.Fatal("label", label)
			}
		}
	}
	if f, e := kind.Free(x); e == api.OK {
		if i, e := kind.Chosen(x, f); e == api.OK && i != b.N || e == api.ErrNone && b.N >= 0 {
			t.Fatal("free", f)
		}
	}
}

func TestCompatible(t *testing.T) {
	s := sample.New(2)
	for range 200 {
		known := s.Known()
		for _, a := range known {
			for _, b := range known {
				for _, c := range known {
					if kind.Compatible(a, b) && kind.Compatible(b, c) && !kind.Compatible(a, c) {
						t.Fatal("transitive")
					}
				}
			}
		}
	}
}

func TestApart(t *testing.T) {
	x := parse(t, "union u U(bool){case 1:a seq<ref u>;}")
	y, _ := kind.Unfold(x)
	y.Labels[0][0], y.Names[0], y.Kids[1].Kids[0].Names[0] = 0, "z", "z"
	y.Kids[1].Kids[0].Labels[0][0] = 7
	if kind.Format(x) != "union u U(bool){case 1:a seq<ref u>;}" {
		t.Error("shared", kind.Format(x))
	}
}
