package macro

import (
	"reflect"
	"slices"
	"strconv"
	"strings"
	"testing"

	"intermede/api"
	"intermede/sample"
)

// show writes what comes out, a line each, or the error and its place.
func show(rows []api.Row, at api.Origin, e api.Errno) string {
	if e != api.OK {
		return "! " + strconv.Itoa(int(e)) + " " + at.Name + " " + strconv.Itoa(at.Line)
	}
	var l []string
	for _, r := range rows {
		l = append(l, r.Origin.Name+strconv.Itoa(r.Origin.Line)+":"+r.Text)
	}
	return strings.Join(l, "|")
}

func ask(t *testing.T, text, want string, others ...api.Text) {
	t.Helper()
	if got := show(Run("m", append([]api.Text{{Name: "m", Text: text}}, others...), nil)); got != want {
		t.Errorf("%q:\n%s instead of\n%s", text, got, want)
	}
}

func TestLines(t *testing.T) {
	for _, c := range []struct{ s, want string }{
		{"", ""}, {"a", "1:a"}, {"a\n", "1:a"}, {"a\n\nb", "1:a|2:|3:b"}, {"a\\\nb\nc", "1:ab|3:c"}, {"a \\\n\\\n b\n\nc", "1:a b|4:|5:c"}, {"a\\", `1:a \`}, {"a\\\n", "1:a"}, {"a\\\\\nb", `1:a \ b`},
		{"a // b\nc", "1:a|2:c"}, {"a /* b\n c */ d\ne", "1:a d|3:e"}, {"a/**/b", "1:a b"}, {"a /*/ b */ c", "1:a c"}, {"/* \n */\n/**/ x /* \n\n */ y\nz", "1:|3:x y|6:z"}, {"a // b \\\n c\nd", "1:a|3:d"}, {"/\\\n/ a", "1:"}, {"/* *\\\n/ a", "1:a"},
		{`"a // b" c`, `1:"a // b" c`}, {`"a\" /* b" /* c */ d`, `1:"a\" /* b" d`}, {"\"a /* b\nc */", `1:"a /* b|2:c * /`}, {"\"a\\", `1:"a\`}, {"a\t b\rc", "1:a b \r c"},
	} {
		rows, e := Lines(c.s)
		if got := show(rows, api.Origin{}, e); got != c.want {
			t.Errorf("%q: %s", c.s, got)
		}
	}
	if _, e := Lines("a\n/* b"); e != api.ErrSyntax {
		t.Error(e)
	}
	if _, e := Lines(strings.Repeat("\n", 2000)); e != api.OK {
		t.Error(e)
	}
	if _, e := Lines(strings.Repeat("\n", 2001)); e != api.ErrLimit {
		t.Error(e)
	}
	if _, e := Lines(strings.Repeat("a", api.MaxText+1)); e != api.ErrLong {
		t.Error(e)
	}
}

func TestWords(t *testing.T) {
	for s, want := range map[string]string{
		"_a1 b2c 1.5x 0x1F": "_a1 b2c 1.5x 0x1F", "a&&b||c==d!=e<=f>=g": "a && b || c == d != e <= f >= g", "&|=!<>": "& | = ! < >", `"a b"c"d`: `"a b" c "d`, "a\tb": "a b", "": "", "\xc3\xa9": "\xc3 \xa9", "<<=": "< <=",
	} {
		if got, e := Words(s); strings.Join(got, " ") != want || e != api.OK {
			t.Errorf("%q: %q", s, got)
		}
	}
	if l, _ := Words("a&&b||c"); !slices.Equal(l, []string{"a", "&&", "b", "||", "c"}) {
		t.Error(l)
	}
	for _, s := range []string{"a\nb", strings.Repeat("a", api.MaxText+1)} {
		_, e1 := Words(s)
		_, e2 := Replace(s, []api.Macro{{}})
		_, e3 := Value(s, []api.Macro{{}})
		_, e4 := Define(s)
		for i, e := range []api.Errno{e1, e2, e3, e4} {
			if e != api.ErrLong {
				t.Error(i, e)
			}
		}
	}
}

func TestDefine(t *testing.T) {
	for _, c := range []struct {
		s, want string
	}{
		{"a", "a"}, {"  a   b  c", "a b c"}, {"f(x) x+x", "f(x) x + x"}, {"f (x) x", "f ( x ) x"}, {"f() 1", "f() 1"}, {"f(a,b) a", "f(a, b) a"}, {"f( a , b )a", "f(a, b) a"}, {"a \"x", "a \"x"}, {"f(a,b,c,d,e,f,g,h)", "f(a, b, c, d, e, f, g, h)"},
		{"", ""}, {"1", ""}, {"defined", ""}, {"f(", ""}, {"f(a", ""}, {"f(a,)", ""}, {"f(,a)", ""}, {"f(a b)", ""}, {"f(a,a)", ""}, {"f(1)", ""}, {"f(a,b,c,d,e,f,g,h,i)", ""}, {"a " + strings.Repeat("x", 1001), ""}, {"a " + strings.Repeat("x", 1000), "a " + strings.Repeat("x", 1000)},
	} {
		m, e := Define(c.s)
		if Format(m) != c.want || (e == api.OK) != (c.want != "") || e != api.OK && (e != api.ErrSyntax || !reflect.DeepEqual(m, api.Macro{})) {
			t.Errorf("%q: %q %d", c.s, Format(m), e)
		}
		if again, _ := Define(Format(m)); e == api.OK && (!Same(m, again) || !ValidMacro(m)) {
			t.Errorf("%q", c.s)
		}
	}
	for i, m := range []api.Macro{{}, {Name: "a b"}, {Name: "defined"}, {Name: "a", Params: []string{"b"}}, {Name: "a", Called: true, Params: []string{"b", "b"}}, {Name: "a", Called: true, Params: []string{""}}, {Name: "a", Body: " b"}, {Name: "a", Body: "b+c"}, {Name: "a", Body: "b\nc"}} {
		if ValidMacro(m) || Format(m) != "" {
			t.Error(i)
		}
	}
	a := api.Macro{Name: "a", Called: true, Body: "b"}
	if !Same(a, api.Macro{Name: "a", Called: true, Body: "b", Params: []string{}}) || Same(a, api.Macro{Name: "a", Body: "b"}) || !Same(api.Macro{Name: "("}, api.Macro{Name: "("}) {
		t.Error("Same")
	}
}

func macros(t *testing.T, l ...string) []api.Macro {
	t.Helper()
	var out []api.Macro
	for _, s := range l {
		m, e := Define(s)
		if e != api.OK {
			t.Fatal(s)
		}
		out = append(out, m)
	}
	return out
}

func TestReplace(t *testing.T) {
	l := macros(t, "one 1", "twice(x) ((x) + (x))", "none", "self self x", "a b y", "b a z", "f(x) x", "g f", "call() 7", "two(x,y) x-y", "open f (", "id(x) x", "str \"one\"", "bad f(", "q(y) [y]", "app(x) x (1)")
	for s, want := range map[string]string{
		"x one  y": "x 1 y", "twice(1)": "( ( 1 ) + ( 1 ) )", "twice(twice(1))": "( ( ( ( 1 ) + ( 1 ) ) ) + ( ( ( 1 ) + ( 1 ) ) ) )", "twice": "twice", "twice x": "twice x", "none none": "", "self": "self x", "a": "a z y", "b": "b y z", "f(a)": "a z y",
		"f(f)(1)": "f ( 1 )", "f(g)(1)": "f ( 1 )", "g(1)": "1", "g (one)": "1", "call()": "7", "call( )": "7", "call": "call", "two(1,2)": "1 - 2", "two(,)": "-", "two((1,2),3)": "( 1 , 2 ) - 3", "f()": "", "f((,))": "( , )", "open one)": "1", "str one": `"one" 1`, "id(id)(one)": "id ( 1 )", "app(q)": "[ 1 ]", "app(app)": "app ( 1 )",
		"\"one\" one1": `"one" one1`, "id(two)(1,2)": "1 - 2",
	} {
		got, e := Replace(s, l)
		if got != want || e != api.OK {
			t.Errorf("%q: %q %d", s, got, e)
		}
	}
	for s, want := range map[string]api.Errno{"f(": api.ErrSyntax, "f((1)": api.ErrSyntax, "f(1,2)": api.ErrSyntax, "two(1)": api.ErrSyntax, "two()": api.ErrSyntax, "call(1)": api.ErrSyntax, "call(,)": api.ErrSyntax, "bad": api.ErrSyntax, "f(two(1))": api.ErrSyntax, "f(open 1))": api.ErrSyntax, "call": 0} {
		if got, e := Replace(s, l); e != want || e != 0 && got != "" {
			t.Errorf("%q: %q %d", s, got, e)
		}
	}
	if _, e := Replace("a", append(l, l[0])); e != api.ErrInvalid {
		t.Error(e)
	}
	if _, e := Replace("a", []api.Macro{{Name: "1"}}); e != api.ErrInvalid {
		t.Error(e)
	}
	if _, e := Replace(strings.Repeat("one ", 10000), l); e != api.OK {
		t.Error(e)
	}
	if _, e := Replace(strings.Repeat("one ", 10001), l); e != api.ErrLimit {
		t.Error(e)
	}
	big := macros(t, "a0 "+strings.Repeat("x", 1000), "a1 a0 a0 a0 a0 a0 a0 a0 a0", "a2 a1 a1 a1 a1 a1 a1 a1 a1", "a3 a2 a2", "drop(x)")
	if s, e := Replace("a2", big); e != api.OK || len(s) != 64*1001-1 {
		t.Error(len(s), e)
	}
	for _, s := range []string{"a3", "drop(a3)", "a2 a2"} {
		if _, e := Replace(s, big); e != api.ErrLimit {
			t.Error(s, e)
		}
	}
}

func TestDeep(t *testing.T) {
	l := macros(t, "f(x) x", "h f (")
	s := strings.Repeat("f(", 9000) + "1" + strings.Repeat(")", 9000)
	if got, e := Replace(s, l); got != "1" || e != api.OK {
		t.Error(len(got), e)
	}
	s = strings.Repeat("h ", 9000) + "1" + strings.Repeat(")", 9000) // the first parenthesis ends the first call
	if got, e := Replace(s, l); got != "" || e != api.ErrSyntax {
		t.Error(len(got), e)
	}
	if n, e := Value(strings.Repeat("(", 16000)+"1"+strings.Repeat(")", 16000), nil); n != 1 || e != api.OK {
		t.Error(n, e)
	}
}

func TestValue(t *testing.T) {
	l := macros(t, "one 1", "add(x,y) x + y", "none", "big 9223372036854775807", "not !")
	for s, want := range map[string]int{
		"1": 1, "007": 7, "unknown": 0, "none 3": 3, "one + 1": 2, "add(1,2) * 3": 7, "(1 + 2) * 3": 9, "7 / -2": -3, "-7 % 2": -1, "!0": 1, "!5": 0, "--3": 3, "! ! 2": 1, "1 - 2 - 3": -4, "8 / 2 / 2": 2, "1 < 2": 1, "2 <= 1": 0, "3 > 2 > 1": 0, "1 == 1 != 0": 1, "1 < 2 == 1": 1, "1 + 1 == 2 && 3": 1, "0 || 0 && 1": 0, "1 || 1 / 0": 1, "0 && 1 % 0": 0,
		"defined one": 1, "defined(none)": 1, "defined x": 0, "defined ( add ) + 1": 2, "!defined x && defined one": 1, "defined defined": 0, "not 0": 1, "-big - 1": -1 << 63, "(-big - 1) % -1": 0, "1 && 2": 1,
	} {
		if n, e := Value(s, l); n != want || e != api.OK {
			t.Errorf("%q: %d %d", s, n, e)
		}
	}
	for s, want := range map[string]api.Errno{
		"": api.ErrSyntax, "1 +": api.ErrSyntax, "(1": api.ErrSyntax, "1)": api.ErrSyntax, "1 2": api.ErrSyntax, "0x1": api.ErrSyntax, "1.5": api.ErrSyntax, "12a": api.ErrSyntax, `"a"`: api.ErrSyntax, "defined": api.ErrSyntax, "defined (x": api.ErrSyntax, "defined 1": api.ErrSyntax, "1 = 1": api.ErrSyntax, "1 + + 1": api.ErrSyntax, "add(1": api.ErrSyntax, "1 / 0 )": api.ErrSyntax, "9223372036854775808 +": api.ErrSyntax,
		"9223372036854775808": api.ErrRange, "0 && 9223372036854775808": api.ErrRange, "1 / 0": api.ErrRange, "1 % 0": api.ErrRange, "big + 1": api.ErrRange, "-big - 2": api.ErrRange, "big * 2": api.ErrRange, "(-big - 1) / -1": api.ErrRange, "-(-big - 1)": api.ErrRange, "(-big - 1) * -1": api.ErrRange,
	} {
		if n, e := Value(s, l); n != 0 || e != want {
			t.Errorf("%q: %d %d", s, n, e)
		}
	}
	if n, e := Value("(-big - 1) * 1", l); n != -1<<63 || e != api.OK {
		t.Error(n, e)
	}
	if _, e := Value("1 1", []api.Macro{{}}); e != api.ErrInvalid {
		t.Error(e)
	}
}

func TestRun(t *testing.T) {
	ask(t, "a  b\n\n c;", "m1:a b|m3:c ;")
	ask(t, "#define twice(x) ((x) + (x))\ntwice(a, b)", "! 2 m 2")
	ask(t, "#define x 1\nx\n#undef x\nx\n#undef x\n#define x 2\nx", "m2:1|m4:x|m7:2")
	ask(t, "#define x 1\n# define x   1\nx\n#define x 2", "! 6 m 4")
	ask(t, "#define f(a) a\n#define f(b) b", "! 6 m 2")
	ask(t, "#\n # /* */\n#pragma  a  b\n#define b c\n#pragma b", "m3:# pragma a b|m5:# pragma b")
	for s, e := range map[string]string{"#pragma": "2", "#unknown": "2", "#1": "2", "#define": "2", "#define 1": "2", "#define defined": "2", "#undef defined": "2", "#undef": "2", "#undef a b": "2", "#include": "2", "#include a": "2", "#include \"m\" x": "2", "#include \"m": "2", "#include \"n\"": "5", "#error": "12", "#error a b": "12", "#else": "2", "#elif 1": "2", "#endif": "2", "#if": "2", "#if 1 +": "2", "#if 1/0": "7", "#ifdef": "2", "#ifdef 1": "2", "#ifdef a b": "2", "#ifndef a b": "2", "/*": "2"} {
		ask(t, "\n"+s, "! "+e+" m 2")
	}
	ask(t, "a /* b\n\n c", "! 2 m 1")
	ask(t, "#error\n/*", "! 12 m 1")
	ask(t, "#define a a \\\n b\nc a\na", "m3:c a b|m4:a b")
}

func TestGroups(t *testing.T) {
	ask(t, "#if 1\na\n#elif 1/0\nb\n#else\nc\n#endif\nd", "m2:a|m8:d")
	ask(t, "#if 0\na\n#elif 1\nb\n#else\nc\n#endif", "m4:b")
	ask(t, "#if 0\na\n#elif 0\nb\n#else\nc\n#endif", "m6:c")
	ask(t, "#ifdef x\na\n#else\nb\n#endif\n#define x\n#ifdef x\nc\n#endif\n#ifndef x\nd\n#endif", "m4:b|m8:c")
	ask(t, "#if 0\n#unknown\n#error\n#include\n#if bad bad\n#else x\n#endif y\nf(\n#elif 1\na\n#endif", "m10:a")
	ask(t, "#define f(x)\n#if 0\nf(\n#endif\nf(", "! 2 m 5")
	ask(t, "#if 1\n#else\n#else\n#endif", "! 2 m 3")
	ask(t, "#if 1\n#else\n#elif 1\n#endif", "! 2 m 3")
	ask(t, "#if 0\n#if 1\n#else\n#else\n#endif\n#endif", "! 2 m 4")
	ask(t, "#if 1\n#else x\n#endif", "! 2 m 2")
	ask(t, "#if 0\n#endif x", "! 2 m 2")
	ask(t, "a\n#if 1\nb\n#if 0\nc", "! 2 m 2")
	ask(t, "#if 1\n#error\n", "! 12 m 2")
	ask(t, strings.Repeat("#if 1\n", 40)+"a\n"+strings.Repeat("#endif\n", 40), "m41:a")
	ask(t, strings.Repeat("#if 1\n", 41)+"a\n"+strings.Repeat("#endif\n", 41), "! 4 m 41")
	ask(t, strings.Repeat("#if 0\n", 41)+"a\n"+strings.Repeat("#endif\n", 41), "! 4 m 41")
	ask(t, "#if 1\n#include \"n\"\n#endif", "! 2 n 1", api.Text{Name: "n", Text: "#endif"})
	ask(t, "#include \"n\"\n#endif", "! 2 n 2", api.Text{Name: "n", Text: "\n#if 1\na"})
	ask(t, "#if 0\n#include \"x\"\n#endif\n#if 1\n#include \"n\"\na\n#endif", "n2:b|m6:a", api.Text{Name: "n", Text: "#if 1\nb\n#endif"})
	deep := strings.Repeat("#if 1\n", 21)
	ask(t, deep+"#include \"n\"\n"+strings.Repeat("#endif\n", 21), "! 4 n 20", api.Text{Name: "n", Text: deep + strings.Repeat("#endif\n", 21)})
}

func TestInclude(t *testing.T) {
	b := api.Text{Name: "b", Text: "b1\n#include \"m\"\n#include \"c d\"\nb4 x\n#define y z"}
	c := api.Text{Name: "c d", Text: "c\n#define x 5"}
	ask(t, "a\n#include \"b\"\n#include \"c d\"\ne y x", "m1:a|b1:b1|c d1:c|b4:b4 5|m4:e z 5", b, c)
	source := []api.Text{{Name: "m", Text: "#include \"b\"\n#include \"b\""}, b, c, {Name: "d", Text: "#error"}}
	if l, e := Included("m", source, nil); e != api.OK || strings.Join(l, ",") != "m,b,c d" {
		t.Error(l, e)
	}
	if l, e := Macros("m", source, macros(t, "w", "a 1")); e != api.OK || len(l) != 4 || l[0].Name != "a" || l[1].Name != "w" || l[2].Name != "x" || l[3].Body != "z" {
		t.Error(l, e)
	}
	if l, e := Included("d", source, nil); l != nil || e != api.ErrData {
		t.Error(l, e)
	}
	if l, e := Macros("d", source, nil); l != nil || e != api.ErrData {
		t.Error(l, e)
	}
	many := make([]api.Text, 20)
	for i := range many {
		many[i] = api.Text{Name: "t" + strconv.Itoa(i), Text: "#include \"t" + strconv.Itoa((i+1)%20) + "\"\n" + strconv.Itoa(i)}
	}
	if rows, _, e := Run("t0", many, nil); e != api.OK || len(rows) != 20 || rows[19].Text != "0" {
		t.Error(e)
	}
	for i, bad := range [][]api.Text{nil, {{Name: "x"}}, {{Name: "m"}, {Name: "m"}}, {{Name: "m"}, {Name: ""}}, {{Name: "m"}, {Name: "a\"b"}}, {{Name: "m"}, {Name: "a\nb"}}, {{Name: "m"}, {Name: strings.Repeat("n", 33)}}, {{Name: "m", Text: strings.Repeat("n", api.MaxText+1)}}, append(many, api.Text{Name: "m"})} {
		if _, at, e := Run("m", bad, nil); e != api.ErrInvalid || at != (api.Origin{}) {
			t.Error(i, e)
		}
	}
	if _, _, e := Run("m", []api.Text{{Name: "m"}}, []api.Macro{{}}); e != api.ErrInvalid {
		t.Error(e)
	}
}

func TestLimits(t *testing.T) {
	ask(t, strings.Repeat("\n", 3000)+"a", "m3001:a")
	if rows, _, e := Run("m", []api.Text{{Name: "m", Text: strings.Repeat("a\n", 2000)}}, nil); e != api.OK || len(rows) != 2000 {
		t.Error(e)
	}
	ask(t, strings.Repeat("a\n", 2001), "! 4 m 2001")
	ask(t, "\n"+strings.Repeat("+", 32769), "! 4 m 2")
	if rows, _, e := Run("m", []api.Text{{Name: "m", Text: strings.Repeat("+", 32768)}}, nil); e != api.OK || len(rows[0].Text) != 65535 {
		t.Error(e)
	}
}

func TestPlain(t *testing.T) {
	s := sample.New(3)
	for range 300 {
		text := s.Text("ab1 +\t\n.", 40)
		var want []string
		for i, l := range strings.Split(text, "\n") {
			words, _ := Words(l)
			if len(words) > 0 {
				want = append(want, "m"+strconv.Itoa(i+1)+":"+strings.Join(words, " "))
			}
			if r, e := Replace(l, macros(t, "zz a")); r != strings.Join(words, " ") || e != api.OK {
				t.Fatal(l)
			}
		}
		ask(t, text, strings.Join(want, "|"))
		Run("m", []api.Text{{Name: "m", Text: s.Text("#ifdelsn\n\\\"/*() a", 60)}}, nil)
	}
}
