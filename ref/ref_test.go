package ref

import (
	"reflect"
	"slices"
	"strconv"
	"strings"
	"testing"

	"intermede/api"
	"intermede/sample"
)

func profile(host string, port int, key string, parts ...api.Context) api.Profile {
	return api.Profile{Host: host, Port: port, Key: key, Parts: parts}
}

func part1(text string) api.Context { return api.Context{Tag: 1, Text: text} }

func ref(id string, l ...api.Profile) api.Ref { return api.Ref{ID: id, Profiles: l} }

func TestValid(t *testing.T) {
	p := profile("h1", 1, "k")
	many := func(n int) []api.Profile {
		var l []api.Profile
		for i := range n {
			l = append(l, profile("h", i+1, "k"))
		}
		return l
	}
	parts := func(n int) []api.Context {
		var l []api.Context
		for i := range n {
			l = append(l, api.Context{Tag: i})
		}
		return l
	}
	for i, c := range []struct {
		r    api.Ref
		want bool
	}{
		{ref(""), true}, {ref("I:1.0", p), true}, {ref("I:1.0"), false}, {ref("", p), false}, {ref("a b", p), false}, {ref("I", many(8)...), true}, {ref("I", many(9)...), false}, {ref("I", p, p), false}, {ref("I", profile("a-.9", 65535, strings.Repeat("k", 200))), true}, {ref("I", profile("", 1, "k")), false}, {ref("I", profile(strings.Repeat("h", 40), 1, "k")), true}, {ref("I", profile(strings.Repeat("h", 41), 1, "k")), false}, {ref("I", profile("H", 1, "k")), false}, {ref("I", profile("h", 0, "k")), false}, {ref("I", profile("h", 65536, "k")), false}, {ref("I", profile("h", 1, "")), false}, {ref("I", profile("h", 1, strings.Repeat("k", 201))), false},
		{ref("I", api.Profile{Host: "h", Port: 1, Key: "k", Minor: 9}), true}, {ref("I", api.Profile{Host: "h", Port: 1, Key: "k", Minor: 10}), false}, {ref("I", api.Profile{Host: "h", Port: 1, Key: "k", Minor: -1}), false}, {ref("I", profile("h", 1, "k", parts(8)...)), true}, {ref("I", profile("h", 1, "k", parts(9)...)), false}, {ref("I", profile("h", 1, "k", api.Context{Tag: 1000, Text: strings.Repeat("x", 200)})), true}, {ref("I", profile("h", 1, "k", api.Context{Tag: 1001})), false}, {ref("I", profile("h", 1, "k", api.Context{Tag: -1})), false}, {ref("I", profile("h", 1, "k", part1("a"), part1("b"))), false}, {ref("I", profile("h", 1, "k", api.Context{Text: strings.Repeat("x", 201)})), false},
	} {
		if Valid(c.r) != c.want || (Format(c.r) != "") != c.want || Equal(c.r, c.r) != c.want || Equivalent(c.r, c.r) != c.want {
			t.Error(i)
		}
		if c.want {
			if r, e := Parse(Format(c.r)); e != api.OK || !Equal(r, c.r) {
				t.Error(i, e)
			}
			continue
		}
		_, e1 := Hash(c.r, -1)
		_, e2 := Address(c.r)
		_, e3 := Profiles(c.r, "h")
		_, e4 := Add(c.r, p)
		_, e5 := Without(c.r, -1)
		_, e6 := Part(c.r, -1, 0)
		_, _, _, e7 := Group(c.r)
		_, e8 := Grouped([]api.Ref{ref(""), c.r}, "", -1, -5)
		_, e9 := As(c.r, "")
		for j, e := range []api.Errno{e1, e2, e3, e4, e5, e6, e7, e8, e9} {
			if e != api.ErrInvalid {
				t.Error(i, j, e)
			}
		}
	}
	if !Nil(ref("")) || Nil(ref("I", p)) || Nil(ref("I")) {
		t.Error("Nil")
	}
}

func TestEquivalent(t *testing.T) {
	a, b := profile("h1", 1, "k"), profile("h2", 1, "k")
	c := a
	c.Minor = 3
	g1, g2, g3 := profile("x", 1, "x", part1("g 1")), profile("y", 1, "y", part1("g 2 first")), profile("z", 1, "z", part1("h 1"))
	for i, x := range []struct {
		a, b api.Ref
		want bool
	}{{ref(""), ref(""), true}, {ref(""), ref("I", a), false}, {ref("I", a), ref("J", a), true}, {ref("I", a), ref("I", b), false}, {ref("I", a, b), ref("J", b), true}, {ref("I", a), ref("I", c), true}, {ref("I", g1), ref("I", g2), true}, {ref("I", g1), ref("I", g3), false}, {ref("I", g1, b), ref("I", g2), false}, {ref("I", a, a), ref("I", a), false}} {
		if Equivalent(x.a, x.b) != x.want || Equivalent(x.b, x.a) != x.want {
			t.Error(i)
		}
	}
	if Equal(ref("I", a), ref("I", c)) || Equal(ref("I", a), ref("J", a)) || !Equal(ref("I", api.Profile{Host: "h", Port: 1, Key: "k", Parts: []api.Context{}}), ref("I", profile("h", 1, "k"))) {
		t.Error("Equal")
	}
	for _, most := range []int{0, 1, 10, 1<<63 - 1} {
		n, e := Hash(ref("I", a), most)
		m, _ := Hash(ref("I", profile("h1", 1, "k")), most)
		if e != api.OK || n != m || n < 0 || n > most {
			t.Error(most, n, e)
		}
	}
	if _, e := Hash(ref("I", a), -1); e != api.ErrRange {
		t.Error(e)
	}
}

func TestFormat(t *testing.T) {
	r := ref("I", profile("h", 258, "\x00k", api.Context{Tag: 5, Text: "\xff"}))
	want := "REF:01000000" + "000000024900" + "0000" + "00000001" + "000000026800" + "0000" + "00000102" + "00000002006b" + "00" + "00" + "00000001" + "00000005" + "00000001ff"
	if s := Format(r); s != want {
		t.Errorf("%s instead of %s", s, want)
	}
	if x, e := Parse("REF:" + strings.ToUpper(want[4:])); e != api.OK || !Equal(x, r) {
		t.Error(e)
	}
	little := "REF:00000000" + "020000004900" + "0000" + "01000000" + "020000006800" + "0000" + "02010000" + "02000000006b" + "00" + "00" + "01000000" + "05000000" + "01000000ff"
	if x, e := Parse(little); e != api.OK || !Equal(x, r) {
		t.Error(e)
	}
	if s := Format(ref("")); s != "REF:01000000"+"0000000100"+"000000"+"00000000" {
		t.Error(s)
	}
	for _, s := range []string{"", "REF:", "ref:" + want[4:], want + "00", want[:len(want)-1], want[:len(want)-2], want + "0", "REF:02" + want[6:], strings.Replace(want, "00000102", "00000000", 1), strings.Replace(want, "6b0000000000", "6b0b00000000", 1), "REF:01000000" + "0000000100" + "000000" + "ffffffff", strings.Replace(want, "49", "20", 1), strings.Replace(want, "6b", "6g", 1), "at:h/k#I"} {
		if s == want {
			t.Fatal("the same")
		}
		if r, e := Parse(s); e != api.ErrSyntax || !reflect.DeepEqual(r, api.Ref{}) {
			t.Error(s, e)
		}
	}
	if _, e := Parse(strings.Repeat("x", 65537)); e != api.ErrLong {
		t.Error(e)
	}
	if _, e := OfAddress(strings.Repeat("x", 65537)); e != api.ErrLong {
		t.Error(e)
	}
}

func TestAddress(t *testing.T) {
	for s, want := range map[string]api.Ref{
		"at:h1:2809.2/Name%20Service#Naming:1.0":    ref("Naming:1.0", api.Profile{Host: "h1", Port: 2809, Minor: 2, Key: "Name Service"}),
		"at:a:1.0,b.c:65535.9/k/-._%25%00%FF#a#b/%": ref("a#b/%", profile("a", 1, "k/-._%\x00\xff"), api.Profile{Host: "b.c", Port: 65535, Minor: 9, Key: "k/-._%\x00\xff"}),
	} {
		if r, e := OfAddress(s); e != api.OK || !Equal(r, want) {
			t.Error(s, r, e)
		}
		if a, e := Address(want); a != s || e != api.OK {
			t.Error(a, e)
		}
	}
	for s, want := range map[string]string{"at:h/k#I": "at:h:1234.0/k#I", "at:h:5/k#I": "at:h:5.0/k#I", "at:h.1/k#I": "at:h.1:1234.0/k#I", "at:a,b:2.3/k#I": "at:a:1234.0,b:2.3/k#I"} {
		r, _ := OfAddress(s)
		if a, e := Address(r); a != want || e != api.OK {
			t.Error(s, a, e)
		}
	}
	for _, s := range []string{"", "at:", "at:h/#I", "at:h/k", "at:h#I", "at:/k#I", "at:h/k#", "at:h:/k#I", "at:h:0/k#I", "at:h:01/k#I", "at:h:65536/k#I", "at:h:1./k#I", "at:h:1.10/k#I", "at:h:1.x/k#I", "at:h,h/k#I", "at:h,,g/k#I", "at:h/k%2#I", "at:h/%4a#I", "at:h/%41#I", "at:h/%ff#I", "at:h/k k#I", "at:H/k#I", "at:h/k#a b", "REF:00"} {
		if r, e := OfAddress(s); e != api.ErrSyntax || !reflect.DeepEqual(r, api.Ref{}) {
			t.Error(s, r, e)
		}
	}
	for i, r := range []api.Ref{ref(""), ref("I", profile("h", 1, "k"), profile("h", 2, "l")), ref("I", profile("h", 1, "k", part1("x")))} {
		if _, e := Address(r); e != api.ErrKind {
			t.Error(i, e)
		}
	}
}

func TestChange(t *testing.T) {
	a, b := profile("h", 1, "k", part1("x")), profile("g", 1, "k")
	r, e := Add(ref("I", a), b)
	if e != api.OK || !Equal(r, ref("I", a, b)) {
		t.Error(e)
	}
	if back, e := Without(r, 1); e != api.OK || !Equal(back, ref("I", a)) {
		t.Error(e)
	}
	r.Profiles[0].Parts[0].Text = "y"
	if a.Parts[0].Text != "x" {
		t.Error("shared")
	}
	if l, e := Profiles(ref("I", a, b, profile("h", 2, "k")), "h"); !slices.Equal(l, []int{0, 2}) || e != api.OK {
		t.Error(l, e)
	}
	if s, e := Part(ref("I", a), 0, 1); s != "x" || e != api.OK {
		t.Error(s, e)
	}
	if x, e := As(ref("I", a), "J:2.0"); e != api.OK || !Equal(x, ref("J:2.0", a)) {
		t.Error(e)
	}
	eight := ref("I")
	for i := range 8 {
		eight.Profiles = append(eight.Profiles, profile("h"+strconv.Itoa(i), 1, "k"))
	}
	_, e1 := Add(ref(""), a)
	_, e2 := Add(eight, eight.Profiles[0])
	_, e3 := Add(ref("I", a), a)
	_, e4 := Add(ref("I", a), api.Profile{})
	_, e5 := Without(ref("I", a), 0)
	_, e6 := Without(ref("I", a), 1)
	_, e7 := Without(ref(""), 0)
	_, e8 := Part(ref("I", a), 1, 1)
	_, e9 := Part(ref("I", a), 0, 2)
	_, e10 := As(ref(""), "")
	_, e11 := As(ref("I", a), "a b")
	for i, c := range [][2]api.Errno{{e1, api.ErrState}, {e2, api.ErrLimit}, {e3, api.ErrDuplicate}, {e4, api.ErrInvalid}, {e5, api.ErrState}, {e6, api.ErrRange}, {e7, api.ErrRange}, {e8, api.ErrRange}, {e9, api.ErrNone}, {e10, api.ErrState}, {e11, api.ErrInvalid}} {
		if c[0] != c[1] {
			t.Error(i, c)
		}
	}
}

func TestGroup(t *testing.T) {
	for _, c := range []struct {
		texts          []string
		name           string
		version, first int
		e              api.Errno
	}{
		{[]string{"g 0"}, "g", 0, -1, 0}, {[]string{"g_1 1000000000000", "g_1 1000000000000 first"}, "g_1", 1000000000000, 1, 0}, {[]string{"g 1 first", "g 1 first"}, "", 0, 0, api.ErrKind}, {[]string{"g 1", "g 2"}, "", 0, 0, api.ErrKind}, {[]string{"g 1", "h 1"}, "", 0, 0, api.ErrKind}, {[]string{"g 01"}, "", 0, 0, api.ErrKind}, {[]string{"g"}, "", 0, 0, api.ErrKind}, {[]string{"g  1"}, "", 0, 0, api.ErrKind}, {[]string{"g 1 last"}, "", 0, 0, api.ErrKind}, {[]string{"g 1000000000001"}, "", 0, 0, api.ErrKind}, {[]string{"g -1"}, "", 0, 0, api.ErrKind}, {[]string{"1 1"}, "", 0, 0, api.ErrKind}, {[]string{"g 1", ""}, "", 0, 0, api.ErrKind},
	} {
		r := ref("I")
		for i, s := range c.texts {
			r.Profiles = append(r.Profiles, profile("h", i+1, "k", part1(s)))
		}
		if name, version, first, e := Group(r); name != c.name || version != c.version || first != c.first || e != c.e {
			t.Error(c, name, version, first, e)
		}
	}
	if _, _, _, e := Group(ref("")); e != api.ErrKind {
		t.Error(e)
	}
	if _, _, _, e := Group(ref("I", profile("h", 1, "k", part1("g 1")), profile("h", 2, "k"))); e != api.ErrKind {
		t.Error(e)
	}
	full := profile("h", 9, "k")
	for i := range 8 {
		full.Parts = append(full.Parts, api.Context{Tag: i + 2})
	}
	ok := ref("I", profile("h", 1, "k", api.Context{Tag: 0, Text: "z"}, part1("old"), api.Context{Tag: 2}), profile("x", 1, "x"))
	other := ref("J", profile("h", 2, "k"))
	for i, c := range []struct {
		l              []api.Ref
		name           string
		version, first int
		e              api.Errno
	}{
		{[]api.Ref{ok, other}, "g", 7, 1, 0}, {nil, "", -1, 0, api.ErrState}, {[]api.Ref{ref("")}, "", 0, 0, api.ErrState}, {make([]api.Ref, 9), "g", 0, 0, api.ErrInvalid}, {[]api.Ref{ok}, "1", -1, 0, api.ErrName}, {[]api.Ref{ok}, "g", -1, 0, api.ErrRange}, {[]api.Ref{ok}, "g", 0, 1, api.ErrRange}, {[]api.Ref{ok}, "g", 0, -2, api.ErrRange}, {[]api.Ref{ok}, "g", api.MaxTime + 1, 0, api.ErrRange}, {[]api.Ref{ok, ok, ref("I", full)}, "g", 0, -1, api.ErrLimit}, {[]api.Ref{ok, ok}, "g", 0, -1, api.ErrDuplicate}, {[]api.Ref{ok, ok}, "g", 0, 1, 0},
	} {
		r, e := Grouped(c.l, c.name, c.version, c.first)
		if e != c.e {
			t.Error(i, e)
		}
		if e == api.OK {
			if name, version, first, e := Group(r); name != c.name || version != c.version || first != c.first || e != api.OK || r.ID != "I" || len(r.Profiles) != len(c.l) || r.Profiles[0].Parts[0].Text != "z" {
				t.Error(i, name, version, first, e)
			}
		}
	}
	if ok.Profiles[0].Parts[1].Text != "old" {
		t.Error("changed")
	}
}

func TestRandom(t *testing.T) {
	s := sample.New(51)
	for range 1000 {
		r := ref("I" + s.Text("ab:/#%", 5))
		key := "k" + s.Text("a%/ \x00\xff#", 6)
		for i := range 1 + s.Int(4) {
			p := api.Profile{Host: "h" + s.Text("a.-9", 5), Port: 1 + i, Key: key, Minor: s.Int(10)}
			r.Profiles = append(r.Profiles, p)
		}
		a, e := Address(r)
		if back, e2 := OfAddress(a); e != api.OK || e2 != api.OK || !Equal(back, r) {
			t.Fatal(a, e, e2)
		}
		for i := range r.Profiles {
			for tag := range s.Int(3) {
				r.Profiles[i].Parts = append(r.Profiles[i].Parts, api.Context{Tag: tag * 3, Text: s.Text("\x00ab", 9)})
			}
		}
		f := Format(r)
		if back, e := Parse(f); e != api.OK || !Equal(back, r) {
			t.Fatal(f, e)
		}
		i := 4 + s.Int(len(f)-4)
		if x, e := Parse(f[:i] + string("0123456789abcdef"[s.Int(16)]) + f[i+1:]); e == api.OK && !Valid(x) {
			t.Fatal(f)
		}
	}
}
