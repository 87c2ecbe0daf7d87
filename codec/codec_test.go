package codec_test

import (
	"reflect"
	"strings"
	"testing"

	"intermede/api"
	"intermede/cdr"
	"intermede/codec"
	"intermede/data"
	"intermede/kind"
	"intermede/sample"
)

func typ(t *testing.T, s string) api.Type {
	t.Helper()
	x, at, e := kind.Parse(s)
	if e != api.OK {
		t.Fatalf("%q: %d at %d", s, e, at)
	}
	return x
}

func graph(t *testing.T, s string) api.Graph {
	t.Helper()
	g, at, e := data.Parse(s)
	if e != api.OK {
		t.Fatalf("%q: %d at %d", s, e, at)
	}
	return g
}

const long0, long1 = "\x00\x00\x00\x00", "\x00\x00\x00\x01"

func family(t *testing.T) []api.Type {
	return []api.Type{
		typ(t, "value A[a 2]{n octet;next ref a;}"),
		typ(t, "value B[a 2,b 3 t]{n octet;next value A[a 2]{n octet;next ref a;};o octet;}"),
		typ(t, "value C[a 2,c 2]{n octet;next value A[a 2]{n octet;next ref a;};}"),
	}
}

// write writes longs, texts, and octets, each as its kind asks.
func write(l ...any) string {
	w := cdr.NewWriter(true, 0)
	for _, x := range l {
		switch y := x.(type) {
		case int:
			w.Long(y)
		case string:
			w.Text(y)
		case byte:
			w.Octet(int(y))
		case []byte:
			w.Raw(string(y))
		}
	}
	return w.All()
}

func o(n int) byte { return byte(n) }

func TestForms(t *testing.T) {
	for _, c := range []struct{ t, g, want string }{
		{"void", "0:", ""}, {"any", "18:(5:2)[long]", "\x01\x05\x00\x00\x00\x00\x00\x02"}, {"any", "18:", "\x00"}, {"bool", "1:1", "\x01"}, {"octet", "2:200", "\xc8"}, {"short", "4:-2", "\xff\xfe"}, {"huge", "6:1", long0 + long1}, {"text", `7:"a"`, write("a")}, {"fixed<4,1>", `8:"-12.5"`, "\x00\x12\x5d"}, {"enum e E{A,B}", "9:1", long1},
		{"struct s S{a octet;b long;}", "10:(2:1 5:2)", "\x01\x00\x00\x00\x00\x00\x00\x02"}, {"except x X{a octet;}", "15:(2:1)", "\x01"}, {"union u U(octet){case 1:a long;}", "11:1(5:2)", "\x01\x00\x00\x00\x00\x00\x00\x02"}, {"union u U(bool){case 1:a long;}", "11:", "\x00"}, {"union u U(enum e E{A,B}){case 1:a octet;}", "11:1(2:7)", long1 + "\x07"},
		{"seq<octet>", "12:(2:1 2:2)", "\x00\x00\x00\x02\x01\x02"}, {"array<octet,2>", "13:(2:1 2:2)", "\x01\x02"}, {"object o O", `16:"R"`, write("R")}, {"type", "19:[text<5>]", "\x07\x00\x00\x00\x00\x00\x00\x05"},
		{"value A[a 2]{n octet;next ref a;}", "17:-1", long0}, {"value A[a 2]{n octet;next ref a;}", "17:; a (2:9 17:)", write(1, 1, "a", 1, 12, o(9), -1, 0)},
		{"value A[a 2]{n octet;next ref a;}", "17:; b (2:9 17:-1 2:8)", write(1, 2, "b", "a", 2, 8, o(9), 0, 1, o(8))}, {"value A[a 2]{n octet;next ref a;}", "17:; c (2:9 17:-1)", write(1, 1, "c", 2, 8, o(9), 0, 0)},
	} {
		known := family(t)
		s, e := codec.Encode(typ(t, c.t), known, graph(t, c.g), true, 0)
		if s != c.want || e != api.OK {
			t.Errorf("%s %s: %q instead of %q, %d", c.t, c.g, s, c.want, e)
		}
		if n, e := codec.Length(typ(t, c.t), known, graph(t, c.g), 0); n != len(c.want) || e != api.OK {
			t.Error(c.t, n)
		}
	}
	for s, want := range map[string]string{
		"long": "\x05", "text<5>": write(o(7), 5), "seq<bool,3>": write(o(12), 3, o(1)), "array<bool,3>": write(o(13), 3, o(1)), "fixed<5,2>": "\x08\x05\x02", "enum e E{A,B}": write(o(9), "e", "E", 2, "A", "B"), "struct s S{a bool;}": write(o(10), "s", "S", 1, "a", o(1)), "except x X{}": write(o(15), "x", "X", 0),
		"union u U(bool){case 1,0:a bool;}": write(o(11), "u", "U", o(1), -1, 1, "a", o(1), 2, 1, 0), "alias a A bool": write(o(14), "a", "A", o(1)), "object o O": write(o(16), "o", "O"), "value A[z 0,a 1 t]{n ref a;}": write(o(17), "A", 2, "z", 0, o(0), "a", 1, o(1), 1, "n", o(20), "a"), "void": "\x00",
	} {
		if got, e := codec.EncodeType(typ(t, s), true, 0); got != want || e != api.OK {
			t.Errorf("%s: %q instead of %q", s, got, want)
		}
	}
}

func TestErrors(t *testing.T) {
	bad, long := api.Type{Kind: 30}, typ(t, "long")
	_, e1 := codec.EncodeType(bad, true, 0)
	_, e2 := codec.EncodeType(long, true, 8)
	_, e3 := codec.Encode(long, nil, graph(t, "1:"), true, 0)
	_, e4 := codec.Encode(long, nil, graph(t, "5:"), true, -1)
	_, _, b1, e5 := codec.Decode(long, []api.Type{long}, "", true, 0)
	_, _, b2, e6 := codec.Decode(bad, nil, "", true, 0)
	_, _, b3, e7 := codec.DecodeType("", true, 8)
	_, e8 := codec.Enclose(long, nil, graph(t, "1:"), true)
	_, b4, e9 := codec.Disclose(bad, nil, "")
	_, e10 := codec.Turn(long, nil, "", true, 9)
	_, e11 := codec.Length(long, nil, graph(t, "5:"), 9)
	for i, e := range []api.Errno{e1, e2, e3, e4, e5, e6, e7, e8, e9, e10, e11} {
		if e != api.ErrInvalid {
			t.Error(i, e)
		}
	}
	if b1 != 0 || b2 != 0 || b3 != 0 || b4 != 0 {
		t.Error("bad")
	}
	text := typ(t, "array<text,70>")
	g := api.Graph{Root: api.Data{Kind: api.TArray}}
	for range 70 {
		g.Root.Kids = append(g.Root.Kids, api.Data{Kind: api.TText, S: strings.Repeat("x", 1000)})
	}
	_, e1 = codec.Encode(text, nil, g, true, 0)
	_, e2 = codec.Enclose(text, nil, g, true)
	_, e3 = codec.Length(text, nil, g, 0)
	_, _, _, e4 = codec.Decode(long, nil, strings.Repeat("x", api.MaxBytes+1), true, 0)
	for i, e := range []api.Errno{e1, e2, e3, e4} {
		if e != api.ErrLimit {
			t.Error(i, e)
		}
	}
}

func TestEnclose(t *testing.T) {
	s, e := codec.Enclose(typ(t, "long"), nil, graph(t, "5:1"), false)
	if s != "\x00\x00\x00\x00\x01\x00\x00\x00" || e != api.OK {
		t.Errorf("%q", s)
	}
	if g, bad, e := codec.Disclose(typ(t, "long"), nil, s); data.Format(g) != "5:1" || bad != -1 || e != api.OK {
		t.Error(bad, e)
	}
	for s, want := range map[string]int{"": 0, "\x02": 0, "\x01\x01": 1, "\x01\x00": 2, "\x01\x00\x00\x00\x00\x00\x00\x01x": 8} {
		if _, bad, e := codec.Disclose(typ(t, "long"), nil, s); bad != want || e != api.ErrData {
			t.Errorf("%q: %d %d", s, bad, e)
		}
	}
	known := family(t)
	s, _ = codec.Enclose(known[0], known, graph(t, "17:; a (2:9 17:)"), true)
	if g, _, e := codec.Disclose(known[0], known, s); data.Format(g) != "17:; a (2:9 17:)" || e != api.OK {
		t.Error(e)
	}
}

func TestWrongTypes(t *testing.T) {
	deep := strings.Repeat("\x0d\x00\x00\x00\x00\x00\x00\x01", 16)
	for i, c := range []struct {
		s   string
		bad int
	}{
		{"", 0}, {"\x15", 0}, {"\x14", 0}, {"\xff", 0}, {write(o(14), "a", "A", o(0)), 18}, {write(o(14), "a", "A", o(15)), 18}, {write(o(14), "a", "A", o(20), "a"), 18}, {write(o(7), 1001), 0}, {write(o(7), -1), 0}, {"\x08\x00\x00", 0}, {"\x08\x05\x06", 0}, {"\x08\x05", 2},
		{write(o(13), 0, o(1)), 0}, {write(o(13), 0, o(21)), 8}, {write(o(12), 1001, o(1)), 0}, {write(o(9), "e", "E", 0), 0}, {write(o(9), "e", "E", 25), 20}, {write(o(9), "e", "E", -1), 20}, {write(o(9), "e", "E", 24), 20}, {write(o(9), "e", "E", 2, "A", "A"), 0}, {write(o(9), "e", "E", 2, "A", "_"), 32}, {write(o(9), "e f", "E", 1, "A"), 4}, {write(o(9), "", "E", 1, "A"), 4}, {write(o(9), strings.Repeat("e", 33), "E"), 4},
		{write(o(10), "s", "S", 0), 0}, {write(o(10), "s", "S", 2, "a", o(1), "a", o(1)), 0}, {write(o(10), "s", "S", 1, "a", o(20), "s"), 30}, {write(o(10), "s", "S", 1, "a", o(9), "s", "E", 1, "A"), 30}, {write(o(10), "s", "S", 1, "a", o(12), 0, o(20), "t"), 36}, {write(o(10), "s", "S", 1, "a", o(0)), 30},
		{write(o(11), "u", "U", o(6)), 18}, {write(o(11), "u", "U", o(14)), 18}, {write(o(11), "u", "U", o(1), -1, 1, "a", o(1), 0), 0}, {write(o(11), "u", "U", o(1), -1, 1, "a", o(1), 1, 2), 0}, {write(o(11), "u", "U", o(1), 1, 1, "a", o(1), 1, 1), 0}, {write(o(11), "u", "U", o(1), -1, 1, "a", o(1), 257, 2), 36}, {write(o(11), "u", "U", o(1), -1, 1, "a", o(1), -1), 36}, {write(o(11), "u", "U", o(1), -1, 0), 0},
		{write(o(17), "V", 7), 12}, {write(o(17), "V", 0, 0), 0}, {write(o(17), "V", 1, "v", 1, o(0), 0), 0}, {write(o(17), "V", 1, "v", 0, o(2)), 28}, {write(o(17), "V", 1, "v", 0, o(1), 0), 0}, {write(o(17), "V", 2, "v", 0, o(0), "v", 0, o(0), 0), 0},
		{deep + "\x01", 128}, {deep[:120] + "\x01x", -1},
	} {
		_, used, bad, e := codec.DecodeType(c.s, true, 0)
		if bad != c.bad || (e == api.ErrData) != (c.bad >= 0) || c.bad >= 0 && used != 0 {
			t.Errorf("%d: %q: %d %d", i, c.s, bad, e)
		}
	}
	names := "abcdefghijklmnopqrstuvwxy"
	var l []any
	l = append(l, o(10), "s", "S", 20)
	for i := range 20 {
		l = append(l, names[i:i+1], o(10), "t", "T", 15)
		for j := range 15 {
			l = append(l, names[j:j+1], o(1))
		}
	}
	s := write(l...)
	// The structure and 18 of its members have 289 parts; the 19th one has the 290th and then its octets.
	pieces := strings.SplitN(s, "k\x00\x01", 20)
	want := len(strings.Join(pieces[:19], "k\x00\x01")) + 2
	if _, _, bad, e := codec.DecodeType(s, true, 0); e != api.ErrData || bad != want {
		t.Error("the 301st part", bad, want)
	}
}

func TestWrongData(t *testing.T) {
	known := family(t)
	a, b := known[0], known[1]
	for i, c := range []struct {
		t   api.Type
		s   string
		bad int
	}{
		{typ(t, "bool"), "\x02", 0}, {typ(t, "enum e E{A,B}"), write(2), 0}, {typ(t, "enum e E{A,B}"), write(-1), 0}, {typ(t, "union u U(enum e E{A,B}){case 1:a octet;}"), write(2), 0}, {typ(t, "text<2>"), write("abc"), 0}, {typ(t, "text<2>"), write(4), 0}, {typ(t, "text<2>"), write(3, []byte("a\x00\x00")), 5}, {typ(t, "text<2>"), write(3, []byte("abc")), 6}, {typ(t, "text"), write(0), 0}, {typ(t, "fixed<2,0>"), "\x01\xac", 0}, {typ(t, "fixed<2,0>"), "\x01", 1}, {typ(t, "fixed<1,0>"), "\x0d", 0},
		{typ(t, "struct s S{a octet;b fixed<1,0>;}"), "\x01\xff", 1}, {typ(t, "seq<octet,2>"), write(3, []byte("abc")), 0}, {typ(t, "seq<octet>"), write(3, []byte("ab")), 0}, {typ(t, "seq<octet>"), write(-1), 0}, {typ(t, "object o O"), write("a\n"), 0}, {typ(t, "object o O"), write(strings.Repeat("a", 1001)), 0},
		{typ(t, "any"), "\x02", 0}, {typ(t, "any"), "\x01\x00", 1}, {typ(t, "any"), "\x01\x0f", 1}, {typ(t, "any"), "\x01\x14", 1}, {typ(t, "any"), "\x01\x01\x02", 2}, {typ(t, "type"), "\x00", -1}, {typ(t, "type"), write(o(15), "x", "X", 0), -1}, {typ(t, "type"), "\x14", 0},
		{a, write(2), 0}, {a, write(-2), 0}, {a, write(-1, 0), 4}, {a, write(1, 0), 4}, {a, write(1, 7), 4}, {a, write(1, 1, "x", 1), 8}, {a, write(1, 2, "x", "y", 1), 8}, {a, write(1, 2, "x", "a", 1, 8, o(1), 0), -1}, {a, write(1, 2, "x", "a", 3, 8, o(1), 0, 1, o(9), 2, []byte("zz")), -1}, {a, write(1, 1, "a", 2, 8, o(1), 0), 16}, {a, write(1, 1, "b", 1, 8, o(1), 0), 16},
		{a, write(1, 1, "a", 1), 16}, {b, write(1, 1, "b", 2, []byte("\x00")), 16}, {b, write(1, 1, "b", 2, []byte("\x00\x00")), 22}, {a, write(1, 2, "x", "a", 3, []byte("\x00\x00")), 24}, {a, write(1, 2, "x", "a", 3, []byte("\x00\x00\x00")), 31}, {typ(t, "seq<value A[a 2]{n octet;next ref a;}>"), write(1, 1, 1, "a", 1), 20}, {a, write(1, 1, "a", 1, 12, o(1), 1, 1, "a", 1), 44},
		{a, write(1, 1, "a", 0), 16}, {a, write(1, 2, "x", "a", 7), 24}, {a, write(1, 1, "a", 1, -1, o(1), 0), 20}, {a, write(1, 1, "a", 1, 9, o(1), 0), 20}, {a, write(1, 1, "a", 1, 7, o(1), 0), 20}, {a, write(1, 1, "a", 1, 7, o(1), 5), 28}, {a, write(1, 1, "a", 1, 12, o(1), -1, 0), -1}, {a, write(1, 1, "a", 1, 12, o(1), -1, 4), 32},
		{b, write(1, 2, "b", "a", 2, 12, o(1), -1, 0, 1, o(2)), -1}, {b, write(1, 1, "a", 1, 8, o(1), 0), 8}, {b, write(1, 1, "c", 2, 8, o(1), 0, 0), 8}, {typ(t, "struct s S{x value A[a 2]{n octet;next ref a;};y value B[a 2,b 3 t]{n octet;next value A[a 2]{n octet;next ref a;};o octet;};}"), write(1, 1, "a", 1, 8, o(1), 0, -1, 0), 36},
		{a, write(1, 2, "x", "a", 2, 8, o(1), 0, -1), 40}, {a, write(1, 2, "x", "a", 2, 8, o(1), 0, 1), 40}, {typ(t, "struct s S{x value A[a 2]{n octet;next ref a;};y value A[a 2]{n octet;next ref a;};}"), write(1, 2, "x", "a", 2, 8, o(1), 0, 4, 1, -1, 44), 52},
	} {
		g, used, bad, e := codec.Decode(c.t, known, c.s, true, 0)
		if bad != c.bad || (e == api.ErrData) != (c.bad >= 0) {
			t.Errorf("%d: %q: %d %d", i, c.s, bad, e)
		}
		if c.bad < 0 && (used != len(c.s) || !data.Valid(c.t, known, g)) {
			t.Errorf("%d: %q: used %d", i, c.s, used)
		}
	}
}

func TestMany(t *testing.T) {
	s := write(999) + strings.Repeat(long0, 999)
	if _, _, bad, e := codec.Decode(typ(t, "seq<long>"), nil, s, true, 0); bad != -1 || e != api.OK {
		t.Error(bad, e)
	}
	s = write(1000) + "\x01" + strings.Repeat("\x00", 4000)
	if _, _, bad, e := codec.Decode(typ(t, "seq<octet>"), nil, s, true, 0); bad != 4+999 || e != api.ErrData {
		t.Error("1001 parts", bad, e)
	}
	x := typ(t, "struct s S{a octet;b seq<ref s>;}")
	var l []any
	for range 20 {
		l = append(l, o(7), 1)
	}
	if _, _, bad, e := codec.Decode(x, nil, write(l...), true, 0); bad != 8*8 || e != api.ErrData {
		t.Error("levels", bad, e) // the first octet of the structure within eight others would be at the level 18
	}
	v := typ(t, "value V[v 0]{}")
	s = write(301)
	for range 301 {
		s += write(1, 1, "v") + "\x00\x00" + write(1, 0)
	}
	if _, _, bad, e := codec.Decode(typ(t, "seq<value V[v 0]{}>"), []api.Type{v}, s, true, 0); bad != 4+300*24 || e != api.ErrData {
		t.Error("301 nodes", bad, e)
	}
}

func TestRandom(t *testing.T) {
	s := sample.New(11)
	for range 500 {
		known := s.Known()
		x := s.Type(known)
		if s.Int(8) == 0 {
			x = s.Except(known)
		}
		g := s.Graph(x, known)
		at, big := s.Int(8), s.Int(2) == 0
		c, _ := data.Canonical(g)
		b, e := codec.Encode(x, known, g, big, at)
		if e != api.OK {
			t.Fatal("encode", e, kind.Format(x), data.Format(g))
		}
		h, used, bad, e := codec.Decode(x, known, b+"more", big, at)
		if e != api.OK || used != len(b) || bad != -1 || !reflect.DeepEqual(h, c) {
			t.Fatal("decode", kind.Format(x), data.Format(g), data.Format(h), bad, e)
		}
		other, _ := codec.Encode(x, known, g, !big, at)
		if turned, e := codec.Turn(x, known, b, big, at); e != api.OK || turned != other || len(turned) != len(b) {
			t.Fatal("turn")
		}
		if back, e := codec.Turn(x, known, other, !big, at); e != api.OK || back != b {
			t.Fatal("turn back")
		}
		y, e := codec.EncodeType(x, big, at)
		if e != api.OK {
			t.Fatal(e)
		}
		if z, used, bad, e := codec.DecodeType(y, big, at); e != api.OK || used != len(y) || bad != -1 || !kind.Equal(x, z) {
			t.Fatal("type", kind.Format(x), bad)
		}
		w, _ := codec.Enclose(x, known, g, big)
		if h, bad, e := codec.Disclose(x, known, w); e != api.OK || bad != -1 || !reflect.DeepEqual(h, c) {
			t.Fatal("disclose", bad)
		}
		fewer(t, s, x, known, g, b, big, at)
		cut(t, s, x, known, b, big, at)
		cutType(t, s, y, big, at)
	}
}

func fewer(t *testing.T, s *sample.Source, x api.Type, known []api.Type, g api.Graph, b string, big bool, at int) {
	var few []api.Type
	for _, k := range known {
		if s.Int(3) > 0 {
			few = append(few, k)
		}
	}
	want, e := data.Truncated(x, known, few, g)
	got, _, _, e2 := codec.Decode(x, few, b, big, at)
	if e2 == api.OK && (e != api.OK || !reflect.DeepEqual(want, got)) || e2 != api.OK && e2 != api.ErrData || e != api.OK && e2 != api.ErrData {
		t.Fatal("fewer", data.Format(want), data.Format(got), e, e2)
	}
}

func cut(t *testing.T, s *sample.Source, x api.Type, known []api.Type, b string, big bool, at int) {
	for range 4 {
		if len(b) == 0 {
			return
		}
		i := s.Int(len(b))
		if _, used, bad, e := codec.Decode(x, known, b[:i], big, at); e != api.ErrData && used == len(b) || e == api.ErrData && (bad < at || bad > at+i) {
			t.Fatal("cut", bad)
		}
		other := []byte(b)
		other[i] ^= byte(1 << s.Int(8))
		h, used, bad, e := codec.Decode(x, known, string(other), big, at)
		if e == api.ErrData && (bad < at || bad > at+len(b)) || e == api.OK && (!data.Valid(x, known, h) || used > len(b)) {
			t.Fatal("other", bad, e)
		}
		if e == api.OK {
			if again, _, _, e := codec.Decode(x, known, string(other)+"x", big, at); e != api.OK || !reflect.DeepEqual(again, h) {
				t.Fatal("more bytes")
			}
		}
	}
}

func cutType(t *testing.T, s *sample.Source, b string, big bool, at int) {
	for range 8 {
		i := s.Int(len(b))
		if _, _, bad, e := codec.DecodeType(b[:i], big, at); e != api.ErrData || bad < at || bad > at+i {
			t.Fatal("cut", bad, e)
		}
		other := []byte(b)
		other[i] ^= byte(1 << s.Int(8))
		x, used, bad, e := codec.DecodeType(string(other), big, at)
		if e == api.ErrData && (bad < at || bad > at+len(b)) || e == api.OK && !kind.Valid(x) {
			t.Fatal("other", bad, e, used)
		}
	}
}
