package data_test

import (
	"reflect"
	"slices"
	"strings"
	"testing"

	"intermede/api"
	"intermede/data"
	"intermede/kind"
	"intermede/sample"
)

func typ(t *testing.T, s string) api.Type {
	t.Helper()
	x, at, e := kind.Parse(s)
	if e != api.OK {
		t.Fatalf("%q: %d at %d", s, e, at)
	}
	return x
}

func graph(t *testing.T, s string) api.Graph {
	t.Helper()
	g, at, e := data.Parse(s)
	if e != api.OK {
		t.Fatalf("%q: %d at %d", s, e, at)
	}
	return g
}

// family are value types: b and c have the base a, and may be truncated to it or not.
func family(t *testing.T) []api.Type {
	return []api.Type{
		typ(t, "value A[a 2]{n long;next ref a;}"),
		typ(t, "value B[a 2,b 3 t]{n long;next value A[a 2]{n long;next ref a;};o text;}"),
		typ(t, "value C[a 2,c 2]{n long;next value A[a 2]{n long;next ref a;};}"),
		typ(t, "value D[a 2,b 3 t,d 4 t]{n long;next value A[a 2]{n long;next ref a;};o text;p value B[a 2,b 3 t]{n long;next value A[a 2]{n long;next ref a;};o text;};}"),
	}
}

func TestKnown(t *testing.T) {
	l := family(t)
	if !data.Known(l) || !data.Known(nil) || !data.Known(l[1:3]) {
		t.Error("known")
	}
	for i, bad := range [][]api.Type{{l[0], l[0]}, {typ(t, "long")}, {{Kind: api.TValue}}, {l[1], typ(t, "value A[a 1]{n long;}")}, {l[1], typ(t, "value A[a 2]{n long;next long;}")}, {typ(t, "value A[a 2]{n text;next ref a;}"), l[1]}, {l[1], typ(t, "value A[x 0,a 2]{n long;next ref a;}")}} {
		if data.Known(bad) {
			t.Error(i)
		}
	}
	var many []api.Type
	for i := range 25 {
		x := typ(t, "value A[a"+string(rune('a'+i))+" 0]{}")
		many = append(many, x)
	}
	if !data.Known(many[:24]) || data.Known(many) {
		t.Error("24")
	}
}

func TestValid(t *testing.T) {
	known := family(t)
	long := strings.Repeat("5:1 ", 999) + "5:1"
	many := api.Graph{Root: api.Data{Kind: api.TSeq}}
	for range 1000 {
		many.Root.Kids = append(many.Root.Kids, api.Data{Kind: api.TLong})
	}
	if data.Valid(typ(t, "seq<long>"), known, many) {
		t.Error("1001 parts")
	}
	for _, c := range []struct {
		t, g string
		want bool
	}{
		{"void", "0:", true}, {"void", "5:", false}, {"long", "5:7", true}, {"long", "5:2147483648", false}, {"long", "6:7", false}, {"bool", "1:2", false}, {"octet", "2:255", true}, {"long", `5:7"a"`, false}, {"long", "5:7(5:)", false}, {"long", "5:7[long]", false},
		{"alias a1 A long", "5:7", true}, {"text<2>", `7:"ab"`, true}, {"text<2>", `7:"abc"`, false}, {"text", `7:"a\x00"`, false}, {"text", `7:"` + strings.Repeat("a", 1000) + `"`, true}, {"text", `7:"` + strings.Repeat("a", 1001) + `"`, false}, {"text", "7:1", false},
		{"fixed<3,1>", `8:"12.5"`, true}, {"fixed<3,1>", `8:"125"`, false}, {"fixed<3,1>", "8:", false}, {"enum e E{A,B}", "9:1", true}, {"enum e E{A,B}", "9:2", false},
		{"struct s S{a long;b bool;}", "10:(5:1 1:1)", true}, {"struct s S{a long;b bool;}", "10:(5:1)", false}, {"struct s S{a long;b bool;}", "10:(1:1 5:1)", false}, {"except x X{}", "15:", true}, {"except x X{a long;}", "15:(5:)", true},
		{"union u U(bool){case 1:a long;}", "11:1(5:3)", true}, {"union u U(bool){case 1:a long;}", "11:", true}, {"union u U(bool){case 1:a long;}", "11:(5:3)", false}, {"union u U(bool){case 1:a long;}", "11:1", false}, {"union u U(bool){case 1:a long;}", "11:2", false}, {"union u U(short){case 1:a long;default:b text;}", `11:-9(7:"x")`, true},
		{"seq<long,2>", "12:(5:1 5:2)", true}, {"seq<long,2>", "12:(5:1 5:2 5:3)", false}, {"seq<long>", "12:(" + long[4:] + ")", true}, {"array<long,2>", "13:(5:1 5:2)", true}, {"array<long,2>", "13:(5:1)", false},
		{"struct s S{n long;next seq<ref s>;}", "10:(5:1 12:(10:(5:2 12:)))", true}, {"struct s S{n long;next seq<ref s>;}", "10:(5:1 12:(10:(5:2)))", false},
		{"object o O", "16:", true}, {"object o O", `16:"a b~"`, true}, {"object o O", `16:"a\x7f"`, false}, {"object o O", `16:"` + strings.Repeat("a", 1000) + `"`, true}, {"object o O", `16:"` + strings.Repeat("a", 1001) + `"`, false},
		{"any", "18:", true}, {"any", "18:(5:1)[long]", true}, {"any", "18:(5:1)[bool]", false}, {"any", "18:[long]", false}, {"any", "18:(5:1)", false}, {"any", "18:(0:)[void]", false}, {"any", "18:(15:)[except x X{}]", false}, {"any", "18:(18:(2:)[octet])[any]", true},
		{"type", "19:[void]", true}, {"type", "19:[except x X{}]", true}, {"type", "19:", false}, {"type", "19:[long][long]", false},
		{"value A[a 2]{n long;next ref a;}", "17:-1", true}, {"value A[a 2]{n long;next ref a;}", "17:; a (5:1 17:)", true}, {"value A[a 2]{n long;next ref a;}", `17:; b (5:1 17: 7:"x")`, true}, {"value A[a 2]{n long;next ref a;}", "17:; b (5:1 17:)", false}, {"value A[a 2]{n long;next ref a;}", "17:; x (5:1 17:)", false}, {"value B[a 2,b 3 t]{n long;next value A[a 2]{n long;next ref a;};o text;}", "17:; a (5:1 17:)", false},
		{"long", "5:1; a (5:1 17:-1)", true}, {"long", "5:1; a (5:1 17:-1); x ", false}, {"seq<value A[a 2]{n long;next ref a;}>", "12:(17:1 17: 17:-1); a (5:1 17:1); c (5:1 17:)", true},
	} {
		if data.Valid(typ(t, c.t), known, graph(t, c.g)) != c.want {
			t.Error(c.t, c.g)
		}
	}
	if data.Valid(api.Type{Kind: 77}, known, graph(t, "0:")) || data.Valid(typ(t, "void"), []api.Type{{}}, graph(t, "0:")) {
		t.Error("types")
	}
	if data.Valid(typ(t, "value A[a 2]{n long;next ref a;}"), known, api.Graph{Root: api.Data{Kind: api.TValue, N: -2}}) {
		t.Error("-2")
	}
}

func nested(levels int) api.Data {
	d := api.Data{Kind: api.TLong}
	for range levels - 1 {
		d = api.Data{Kind: api.TSeq, Kids: []api.Data{d}}
	}
	return d
}

func TestLoose(t *testing.T) {
	wide := api.Data{Kind: 99, Kids: make([]api.Data, 999)}
	nodes := make([]api.Node, 300)
	for _, c := range []struct {
		g    api.Graph
		size int
	}{
		{api.Graph{Root: nested(16)}, 16}, {api.Graph{Root: nested(17)}, 0}, {api.Graph{Root: wide}, 1000}, {api.Graph{Root: wide, Nodes: []api.Node{{Kids: []api.Data{{}}}}}, 0}, {api.Graph{Nodes: []api.Node{{Kids: []api.Data{nested(16)}}}}, 17}, {api.Graph{Nodes: []api.Node{{Kids: []api.Data{nested(17)}}}}, 0},
		{api.Graph{Root: api.Data{Kind: api.TValue}}, 0}, {api.Graph{Root: api.Data{Kind: api.TValue, N: -1}}, 1}, {api.Graph{Root: api.Data{Kind: api.TValue, N: -2}}, 0}, {api.Graph{Nodes: []api.Node{{Kids: []api.Data{{Kind: api.TValue, N: 1}}}}}, 0}, {api.Graph{Root: api.Data{Kind: api.TLong, N: 5}}, 1},
		{api.Graph{Nodes: nodes}, 1}, {api.Graph{Nodes: append(nodes[:300:300], api.Node{})}, 0},
	} {
		want := api.Errno(api.OK)
		if c.size == 0 {
			want = api.ErrInvalid
		}
		_, e1 := data.Canonical(c.g)
		_, e2 := data.Shared(c.g)
		_, e3 := data.Circle(c.g)
		if data.Size(c.g) != c.size || e1 != want || e2 != want || e3 != want || data.Alike(c.g, c.g) != (c.size > 0) {
			t.Error(c.size, data.Size(c.g), e1, e2, e3)
		}
		if _, e := data.Parts(c.g); e != want && e != api.ErrKind {
			t.Error(e)
		}
	}
}

func TestCanonical(t *testing.T) {
	for _, c := range [][2]string{
		{"12:(17:2 17:-1 17: 17:2); a (5:1 17:); b (5:2); c (17: 5:3)", "12:(17: 17:-1 17:1 17:); c (17:1 5:3); a (5:1 17:1)"},
		{"5:7; a (5:1)", "5:7"}, {"17:", ""},
	} {
		g, _, e := data.Parse(c[0])
		if e != api.OK {
			continue
		}
		out, e := data.Canonical(g)
		if data.Format(out) != c[1] || e != api.OK || !data.Alike(g, out) {
			t.Error(c[0], data.Format(out))
		}
	}
	if data.Alike(graph(t, "17:; a (17:)"), graph(t, "17:; a (17:1); a (17:)")) || data.Alike(graph(t, "5:1"), graph(t, "5:2")) {
		t.Error("Alike")
	}
	g := graph(t, "10:(17: 17:1 17:); a (17:1); b (17:-1); c (17:)")
	if l, e := data.Shared(g); e != api.OK || !slices.Equal(l, []int{0, 1}) {
		t.Error(l)
	}
	for s, want := range map[string]bool{"17:; a (17:)": true, "17:; a (17:1); b (12:(5:1 17:))": true, "17:; a (17:1); b (17:-1)": false, "10:(17: 17:); a (17:-1)": false, "5:1; a (17:)": false} {
		if got, e := data.Circle(graph(t, s)); got != want || e != api.OK {
			t.Error(s)
		}
	}
}

func TestEqual(t *testing.T) {
	a := graph(t, `18:(5:1)[struct s S{a long;}]`).Root
	b := graph(t, `18:(5:1)[struct s S{a long;}]`).Root
	if !data.Equal(a, b) || data.Equal(a, api.Data{Kind: api.TAny}) || !data.Equal(api.Data{Kids: []api.Data{}, Types: []api.Type{}}, api.Data{}) {
		t.Error("Equal")
	}
	for _, change := range []func(*api.Data){func(d *api.Data) { d.N = 1 }, func(d *api.Data) { d.S = "x" }, func(d *api.Data) { d.Kids[0].N = 2 }, func(d *api.Data) { d.Types[0].Names[0] = "b" }, func(d *api.Data) { d.Types[0].Kids[0].Kind = 99 }} {
		c := graph(t, `18:(5:1)[struct s S{a long;}]`).Root
		if change(&c); data.Equal(a, c) {
			t.Error("Equal of others")
		}
	}
}

func TestDefault(t *testing.T) {
	for s, want := range map[string]string{
		"void": "0:", "long": "5:", "text<3>": "7:", "fixed<4,2>": `8:"0.00"`, "fixed<4,0>": `8:"0"`, "enum e E{A,B}": "9:", "seq<long>": "12:", "array<bool,3>": "13:(1: 1: 1:)", "object o O": "16:", "any": "18:", "type": "19:[void]", "value V[v 0]{}": "17:-1", "except x X{a long;}": "15:(5:)",
		"struct s S{a long;b seq<ref s>;}": "10:(5: 12:)", "union u U(bool){case 1:a long;}": "11:", "union u U(bool){case 0:a long;}": "11:(5:)", "union u U(bool){case 0,1:a long;}": "11:(5:)", "union u U(short){case 3,-2:a text;}": "11:-2(7:)", "union u U(short){case 3,2:a text;default:b long;}": "11:(5:)", "union u U(long){case 0,1:a text;case 2:b bool;}": "11:(7:)", "alias a A union u U(enum e E{A,B}){case 1:a text;}": "11:",
	} {
		x := typ(t, s)
		g, e := data.Default(x)
		if data.Format(g) != want || e != api.OK || !data.Valid(x, nil, g) {
			t.Error(s, data.Format(g), e)
		}
	}
	for s, want := range map[string]api.Errno{"array<long,999>": 0, "array<long,1000>": api.ErrLimit, "array<array<array<array<long,1000>,1000>,1000>,1000>": api.ErrLimit} {
		if _, e := data.Default(typ(t, s)); e != want {
			t.Error(s, e)
		}
	}
	if _, e := data.Default(api.Type{Kind: api.TSeq}); e != api.ErrInvalid {
		t.Error(e)
	}
}

func TestTruncated(t *testing.T) {
	l := family(t)
	a, b, c, d := l[0], l[1], l[2], l[3]
	for _, x := range []struct {
		t     api.Type
		fewer []api.Type
		g     string
		want  string
		e     api.Errno
	}{
		{a, []api.Type{a}, `17:; b (5:1 17:1 7:"x"); a (5:2 17:)`, `17:; a (5:1 17:1); a (5:2 17:)`, 0},
		{a, []api.Type{a, b}, `17:; d (5:1 17:-1 7: 17:1); b (5:2 17: 7:"y")`, `17:; b (5:1 17:-1 7:)`, 0},
		{a, []api.Type{a}, `17:; d (5:1 17:-1 7: 17:1); b (5:2 17: 7:"y")`, `17:; a (5:1 17:-1)`, 0},
		{a, []api.Type{a}, `17:; c (5:1 17:-1)`, "", api.ErrNone}, {a, []api.Type{a, c}, `17:; c (5:1 17:-1)`, "17:; c (5:1 17:-1)", 0}, {a, nil, `17:; a (5:1 17:-1)`, "", api.ErrNone}, {a, nil, `17:-1`, "17:-1", 0},
		{b, []api.Type{a}, `17:; b (5:1 17:-1 7:)`, "", api.ErrNone}, {b, []api.Type{b}, `17:; d (5:1 17:-1 7: 17:)`, "17:; b (5:1 17:-1 7:)", 0}, {a, []api.Type{b}, `17:; a (5:1 17:-1)`, "", api.ErrNone},
		{a, []api.Type{a}, `17:; b (5:1 17:-1 7:); c (5:1 17:-1)`, "17:; a (5:1 17:-1)", 0},
		{typ(t, "any"), []api.Type{a}, `18:(17:)[value B[a 2,b 3 t]{n long;next value A[a 2]{n long;next ref a;};o text;}]; b (5:1 17:-1 7:)`, "", api.ErrNone},
		{a, []api.Type{a, a}, "17:-1", "", api.ErrInvalid}, {a, []api.Type{typ(t, "value X[a 2]{n long;next ref a;}")}, "17:-1", "", api.ErrInvalid}, {b, []api.Type{b}, `17:; a (5:1 17:-1)`, "", api.ErrInvalid},
	} {
		g, e := data.Truncated(x.t, l, x.fewer, graph(t, x.g))
		if e != x.e || e == 0 && data.Format(g) != x.want {
			t.Error(x.g, data.Format(g), e)
		}
	}
	if _, e := data.Truncated(d, []api.Type{d}, []api.Type{typ(t, "value A[a 2]{n long;next long;}")}, graph(t, "17:-1")); e != api.ErrInvalid {
		t.Error("a base that is none", e)
	}
}

func TestAny(t *testing.T) {
	l := family(t)
	g, e := data.Any(l[0], l, graph(t, `17:1; a (5:1 17:); b (5:2 17:1 7:)`))
	if s := data.Format(g); e != api.OK || s != `18:(17:)[value A[a 2]{n long;next ref a;}]; b (5:2 17: 7:)` {
		t.Error(s, e)
	}
	if _, e := data.Take(l[1], l, g); e != api.ErrKind {
		t.Error(e)
	}
	if back, e := data.Take(l[0], l, g); e != api.OK || data.Format(back) != "17:; b (5:2 17: 7:)" {
		t.Error(data.Format(back), e)
	}
	for _, c := range []struct {
		t, g string
		e    api.Errno
	}{{"void", "0:", api.ErrKind}, {"void", "5:", api.ErrInvalid}, {"except x X{}", "15:", api.ErrKind}, {"seq<long>", "12:(" + strings.Repeat("5: ", 998) + "5:)", api.ErrLimit}, {"seq<long>", "12:(" + strings.Repeat("5: ", 997) + "5:)", 0}} {
		if _, e := data.Any(typ(t, c.t), nil, graph(t, c.g)); e != c.e {
			t.Error(c.t, e)
		}
	}
	x := typ(t, "long")
	for range 15 {
		x = api.Type{Kind: api.TSeq, Kids: []api.Type{x}}
	}
	if _, e := data.Any(x, nil, api.Graph{Root: nested(16)}); e != api.ErrLimit {
		t.Error(e)
	}
	for _, c := range []struct {
		t, g string
		e    api.Errno
	}{{"long", "5:1", api.ErrKind}, {"long", "18:", api.ErrKind}, {"long", "18:(5:1)[long]", 0}, {"bool", "18:(5:1)[long]", api.ErrKind}, {"long", "18:(1:1)[long]", api.ErrInvalid}, {"text", `18:(7:"a")[text<3>]`, 0}, {"text<2>", `18:(7:"a")[text<3>]`, api.ErrKind}, {"void", "18:(5:1)[long]", api.ErrKind}, {"long", "17:-1", api.ErrKind}} {
		if _, e := data.Take(typ(t, c.t), nil, graph(t, c.g)); e != c.e {
			t.Error(c.t, c.g, e)
		}
	}
	if _, e := data.Take(api.Type{Kind: 50}, nil, graph(t, "5:1")); e != api.ErrInvalid {
		t.Error(e)
	}
	if _, e := data.Take(typ(t, "long"), nil, api.Graph{Root: api.Data{Kind: api.TValue, N: 4}}); e != api.ErrInvalid {
		t.Error(e)
	}
}

func TestSplit(t *testing.T) {
	l := family(t)
	types := []api.Type{l[0], typ(t, "void"), l[0]}
	graphs := []api.Graph{graph(t, "17:1; a (5:9 17:); a (5:1 17:)"), graph(t, "0:"), graph(t, "17:; c (5:2 17:-1)")}
	g, e := data.Split(types, l, graphs)
	if s := data.Format(g); e != api.OK || s != "10:(17: 0: 17:2); a (5:1 17:1); a (5:9 17:1); c (5:2 17:-1)" {
		t.Error(s, e)
	}
	if parts, e := data.Parts(g); e != api.OK || len(parts) != 3 || data.Format(parts[0]) != "17:; a (5:1 17:1); a (5:9 17:1)" || data.Format(parts[2]) != "17:; c (5:2 17:-1)" {
		t.Error(parts, e)
	}
	if g, e := data.Split(nil, nil, nil); e != api.OK || data.Format(g) != "10:" {
		t.Error(e)
	}
	if parts, e := data.Parts(graph(t, "10:(17: 17:); a (5:1)")); e != api.OK || data.Format(parts[0]) != data.Format(parts[1]) || data.Format(parts[1]) != "17:; a (5:1)" {
		t.Error(parts, e)
	}
	bad := api.Graph{Root: api.Data{Kind: 3}}
	for i, c := range []struct {
		types, known []api.Type
		l            []api.Graph
		want         api.Errno
	}{{types[:1], nil, []api.Graph{bad, bad}, api.ErrSize}, {types[:1], types[1:2], nil, api.ErrInvalid}, {[]api.Type{{Kind: -1}}, nil, nil, api.ErrInvalid}, {types[1:2], nil, []api.Graph{bad}, api.ErrInvalid}, {[]api.Type{typ(t, "seq<long>")}, nil, []api.Graph{graph(t, "12:("+strings.Repeat("5: ", 998)+"5:)")}, api.ErrLimit}} {
		if _, e := data.Split(c.types, c.known, c.l); e != c.want {
			t.Error(i, e)
		}
	}
	x := typ(t, "long")
	for range 15 {
		x = api.Type{Kind: api.TSeq, Kids: []api.Type{x}}
	}
	if _, e := data.Split([]api.Type{x}, nil, []api.Graph{{Root: nested(16)}}); e != api.ErrLimit {
		t.Error("levels", e)
	}
	v := typ(t, "seq<value V[v 0]{}>")
	many := api.Graph{Root: api.Data{Kind: api.TSeq}}
	for i := range 151 {
		many.Root.Kids = append(many.Root.Kids, api.Data{Kind: api.TValue, N: i})
		many.Nodes = append(many.Nodes, api.Node{ID: "v"})
	}
	if _, e := data.Split([]api.Type{v, v}, v.Kids, []api.Graph{many, many}); e != api.ErrLimit {
		t.Error("nodes", e)
	}
	if _, e := data.Parts(graph(t, "5:1")); e != api.ErrKind {
		t.Error(e)
	}
}

func TestText(t *testing.T) {
	for _, s := range []string{"0:", "5:-7", "-3:12\"x\"(0:)[long][void]", `7:"\x00\x1f\x22\x5c\x7f\xffa~ "`, "17:; a ; b (5: 5:)", "99:(98:(97:))", "18:[struct s S{a value V[v 0]{};}](", "19:[value V[v 0]{}]"} {
		g, at, e := data.Parse(s)
		if strings.HasSuffix(s, "(") {
			if e != api.ErrSyntax || at != len(s)-1 {
				t.Error(s, at)
			}
			continue
		}
		if e != api.OK || at != 0 || data.Format(g) != s {
			t.Error(s, e, at, data.Format(g))
		}
	}
	for _, c := range []struct {
		s  string
		at int
	}{
		{"", 0}, {"x", 0}, {"5", 1}, {"05:", 1}, {"-0:", 1}, {"5:0", 2}, {"5:-0", 3}, {"5:-", 3}, {"5:1x", 3}, {`7:""`, 3}, {`7:"a`, 4}, {`7:"\x4`, 5}, {`7:"\x21`, 6}, {`7:"\x2`, 6}, {`7:"\x1F`, 6}, {`7:"\y`, 4}, {"7:\"\x01", 3}, {`7:"\x7e`, 6}, {`7:"\x53`, 6},
		{"10:()", 4}, {"10:(5:1  5:1)", 8}, {"10:(5:1,", 7}, {"10:(5:1", 7}, {"10:(5:1))", 8}, {"18:[]", 4}, {"18:[long", 8}, {"18:[lonk]", 7}, {"18:[struct ]", 11}, {"18:[text<5]", 10}, {"18:[seq<long]", 12}, {"18:[struct s S{a long]", 21}, {"18:[object o]", 12}, {"18:[text<0>]x", 12}, {"18:[text<0>]", 12}, {"18:[seq<void>][x", 15},
		{"5:1;", 4}, {"5:1; ", 5}, {"5:1; a", 6}, {"5:1; a,", 6}, {"5:1; a (", 8}, {"5:1; a x", 7}, {"5:1; " + strings.Repeat("a", 33) + " ", 39}, {"17:5", 4}, {"17:-2", 5}, {"5:99999999999999999999", 22}, {"5:1; a ;", 8},
	} {
		if g, at, e := data.Parse(c.s); e != api.ErrSyntax || at != c.at || !reflect.DeepEqual(g, api.Graph{}) {
			t.Errorf("%q: %d at %d", c.s, e, at)
		}
	}
	if _, _, e := data.Parse(strings.Repeat("5", api.MaxText+1)); e != api.ErrLong {
		t.Error(e)
	}
	for i, g := range []api.Graph{{Root: nested(17)}, {Root: api.Data{Types: []api.Type{{Kind: 44}}}}, {Nodes: []api.Node{{ID: "a b"}}}, {Nodes: []api.Node{{}}}} {
		if data.Format(g) != "" {
			t.Error(i)
		}
	}
}

func subset(s *sample.Source, l []api.Type) []api.Type {
	var out []api.Type
	for _, x := range l {
		if s.Int(3) > 0 {
			out = append(out, x)
		}
	}
	return out
}

func TestRandom(t *testing.T) {
	s := sample.New(5)
	for range 400 {
		known := s.Known()
		x := s.Type(known)
		g := s.Graph(x, known)
		if !data.Known(known) || !data.Valid(x, known, g) {
			t.Fatal("valid", kind.Format(x), data.Format(g))
		}
		before := data.Format(g)
		c, e := data.Canonical(g)
		again, _ := data.Canonical(c)
		if e != api.OK || !data.Alike(g, c) || !reflect.DeepEqual(c, again) || !data.Valid(x, known, c) {
			t.Fatal("canonical", data.Format(g))
		}
		if d, e := data.Default(x); e == api.OK && !data.Valid(x, known, d) {
			t.Fatal("default", kind.Format(x))
		}
		if w, e := data.Any(x, known, g); e == api.OK {
			if !data.Valid(api.Type{Kind: api.TAny}, known, w) {
				t.Fatal("any")
			}
			if back, e := data.Take(x, known, w); e != api.OK || !reflect.DeepEqual(back, c) {
				t.Fatal("take", data.Format(back))
			}
		}
		if w, e := data.Split([]api.Type{x, x}, known, []api.Graph{g, c}); e == api.OK {
			parts, e := data.Parts(w)
			if e != api.OK || len(parts) != 2 || !reflect.DeepEqual(parts[0], c) || !reflect.DeepEqual(parts[1], c) {
				t.Fatal("parts")
			}
		}
		truncating(t, s, x, known, g)
		texts(t, s, before)
		if data.Format(g) != before {
			t.Fatal("changed")
		}
	}
}

func truncating(t *testing.T, s *sample.Source, x api.Type, known []api.Type, g api.Graph) {
	c, _ := data.Canonical(g)
	if all, e := data.Truncated(x, known, known, g); e != api.OK || !reflect.DeepEqual(all, c) {
		t.Fatal("truncated to all", e)
	}
	fewer := subset(s, known)
	few, e := data.Truncated(x, known, fewer, g)
	if e != api.OK {
		return
	}
	if !data.Valid(x, fewer, few) {
		t.Fatal("truncated", data.Format(g), data.Format(few))
	}
	least := subset(s, fewer)
	once, e1 := data.Truncated(x, known, least, g)
	twice, e2 := data.Truncated(x, fewer, least, few)
	if e1 != e2 || !reflect.DeepEqual(once, twice) {
		t.Fatal("truncated twice", e1, e2, data.Format(once), data.Format(twice))
	}
}

func texts(t *testing.T, s *sample.Source, text string) {
	g, at, e := data.Parse(text)
	if e != api.OK || at != 0 || data.Format(g) != text {
		t.Fatalf("%q: %d at %d", text, e, at)
	}
	for range 5 {
		i := s.Int(len(text))
		other := text[:i] + s.Text("05:-(); a\"\\x[]>", 3) + text[i:]
		_, at, e := data.Parse(other)
		if e == api.OK || at == len(other) {
			continue
		}
		if _, again, e := data.Parse(other[:at+1]); e != api.ErrSyntax || again != at {
			t.Fatalf("%q: %d, then %d", other, at, again)
		}
		if _, before, e := data.Parse(other[:at]); e == api.ErrSyntax && before != at {
			t.Fatalf("%q: %d, then %d", other, at, before)
		}
	}
}
