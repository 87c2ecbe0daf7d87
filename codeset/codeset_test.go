package codeset

import (
	"reflect"
	"slices"
	"strings"
	"testing"

	"intermede/api"
	"intermede/sample"
)

func TestRight(t *testing.T) {
	for _, c := range []struct {
		set  int
		s    string
		at   int
		e    api.Errno
		want []int
	}{
		{ascii, "a\x7f", 2, 0, []int{97, 127}}, {ascii, "a\x80", 1, api.ErrData, nil}, {latin, "\xff\x00", 2, 0, []int{255, 0}}, {greek, "a\x80\xc7", 3, 0, []int{97, 900, 971}}, {greek, "\xc8", 0, api.ErrData, nil}, {greek, "", 0, 0, nil},
		{utf8Set, "\xc3\xa4\xef\xbf\xbd\xf4\x8f\xbf\xbf", 9, 0, []int{228, 65533, 1114111}}, {utf8Set, "a\xc3", 1, api.ErrData, nil}, {utf8Set, "\xc0\x80", 0, api.ErrData, nil}, {utf8Set, "\xed\xa0\x80", 0, api.ErrData, nil}, {utf8Set, "\xf4\x90\x80\x80", 0, api.ErrData, nil}, {utf8Set, "ab\x80", 2, api.ErrData, nil}, {utf8Set, "\xe2\x82a", 0, api.ErrData, nil},
		{utf16Set, "\x00a\xd8\x00\xdc\x00", 6, 0, []int{97, 65536}}, {utf16Set, "\xdb\xff\xdf\xff", 4, 0, []int{1114111}}, {utf16Set, "\x00a\x00", 2, api.ErrData, nil}, {utf16Set, "\x00a\xd8\x00", 2, api.ErrData, nil}, {utf16Set, "\xd8\x00\x00a", 0, api.ErrData, nil}, {utf16Set, "\xdc\x00\xd8\x00", 0, api.ErrData, nil}, {utf16Set, "\xd8\x00\xdc", 0, api.ErrData, nil},
		{0, "", 0, api.ErrInvalid, nil}, {6, strings.Repeat("a", 65537), 0, api.ErrInvalid, nil}, {1, strings.Repeat("a", 65537), 0, api.ErrLong, nil},
	} {
		if at, e := Right(c.set, c.s); at != c.at || e != c.e {
			t.Errorf("%d %q: %d %d", c.set, c.s, at, e)
		}
		l, e := Points(c.set, c.s)
		if !slices.Equal(l, c.want) || e != c.e {
			t.Errorf("%d %q: %v %d", c.set, c.s, l, e)
		}
		if s, e := Text(c.set, c.want); c.e == 0 && (s != c.s || e != 0) {
			t.Errorf("%d %q: %q", c.set, c.s, s)
		}
	}
	for _, c := range []struct {
		set int
		l   []int
		e   api.Errno
	}{{ascii, []int{128}, api.ErrRange}, {ascii, []int{-1}, api.ErrRange}, {latin, []int{256}, api.ErrRange}, {latin, []int{0, -772}, api.ErrRange}, {greek, []int{128}, api.ErrRange}, {greek, []int{899}, api.ErrRange}, {greek, []int{972}, api.ErrRange}, {utf8Set, []int{55296}, api.ErrRange}, {utf8Set, []int{1114112}, api.ErrRange}, {utf16Set, []int{57343}, api.ErrRange}, {utf16Set, []int{-1}, api.ErrRange}, {7, nil, api.ErrInvalid}, {utf16Set, make([]int, 32769), api.ErrLimit}, {utf16Set, make([]int, 65537), api.ErrLong}, {ascii, make([]int, 65536), 0}} {
		if s, e := Text(c.set, c.l); e != c.e || e != 0 && s != "" {
			t.Error(c.set, len(c.l), e)
		}
	}
}

func TestConvert(t *testing.T) {
	for _, c := range []struct {
		from, to int
		s, want  string
		at       int
		e        api.Errno
	}{
		{latin, utf8Set, "\xe4", "\xc3\xa4", 0, 0}, {utf8Set, ascii, "a\xc3\xa4", "", 1, api.ErrRange}, {utf8Set, greek, "\xce\xb1", "\xad", 0, 0}, {utf8Set, ascii, "a\xc3\xa4\xff", "", 1, api.ErrRange}, {utf8Set, ascii, "a\xff\xc3\xa4", "", 1, api.ErrData}, {greek, latin, "a\x80", "", 1, api.ErrRange}, {utf8Set, utf16Set, "\xf0\x90\x80\x80", "\xd8\x00\xdc\x00", 0, 0},
		{latin, utf16Set, strings.Repeat("a", 32769), "", 0, api.ErrLimit}, {ascii, utf16Set, strings.Repeat("a", 32769) + "\xff", "", 32769, api.ErrData}, {1, 0, "", "", 0, api.ErrInvalid}, {9, 1, "", "", 0, api.ErrInvalid}, {1, 2, strings.Repeat("a", 65537), "", 0, api.ErrLong},
	} {
		if s, at, e := Convert(c.from, c.to, c.s); s != c.want || at != c.at || e != c.e {
			t.Errorf("%d to %d, %q: %q %d %d", c.from, c.to, c.s, s, at, e)
		}
	}
}

func TestNames(t *testing.T) {
	for set, name := range map[int]string{1: "ascii", 2: "latin", 3: "utf8", 4: "utf16", 5: "greek"} {
		if n, e := Set(name); Name(set) != name || n != set || e != api.OK {
			t.Error(name)
		}
	}
	if _, e := Set(""); e != api.ErrName || Name(0) != "" || Name(6) != "" || Name(-1) != "" {
		t.Error("none")
	}
	for set := 1; set <= 5; set++ {
		for other := 1; other <= 5; other++ {
			want := set == other || set == 3 || set == 4 || other == 1
			if is, e := Holds(set, other); is != want || e != api.OK {
				t.Error(set, other)
			}
		}
	}
	if _, e := Holds(0, 1); e != api.ErrInvalid {
		t.Error(e)
	}
	if _, e := Holds(1, 6); e != api.ErrInvalid {
		t.Error(e)
	}
}

func codes(native int, others ...int) api.Codes { return api.Codes{Native: native, Others: others} }

func TestChoose(t *testing.T) {
	for i, c := range []struct {
		client, server api.Codes
		want           int
		e              api.Errno
	}{
		{codes(2), codes(2, 3), 2, 0}, {codes(2, 5), codes(5, 2), 5, 0}, {codes(2, 3), codes(5, 2), 2, 0}, {codes(2, 4, 3), codes(5, 3, 4), 4, 0}, {codes(2, 3), codes(5, 3), 3, 0}, {codes(2), codes(5), 3, 0}, {codes(4), codes(2), 0, api.ErrNone}, {codes(2), codes(4), 0, api.ErrNone}, {codes(4, 1), codes(2, 1), 1, 0}, {codes(4), codes(4), 4, 0}, {codes(0), codes(1), 0, api.ErrInvalid}, {codes(1), codes(1, 1), 0, api.ErrInvalid},
	} {
		n, e := Choose(c.client, c.server)
		if n != c.want || e != c.e {
			t.Error(i, n, e)
		}
		if l, e := Common(c.client, c.server); e == 0 && n != 3 && n != 0 && !slices.Contains(l, n) {
			t.Error(i, l)
		}
	}
	if l, e := Common(codes(5, 2, 1), codes(1, 5)); !slices.Equal(l, []int{1, 5}) || e != api.OK {
		t.Error(l, e)
	}
	if _, e := Common(codes(1, 6), codes(1)); e != api.ErrInvalid {
		t.Error(e)
	}
	for _, c := range []struct {
		client, server api.Codes
		s, sent, taken string
		e              api.Errno
	}{
		{codes(2, 3), codes(5, 3), "a", "a", "a", 0}, {codes(5), codes(3), "\xad", "\xce\xb1", "\xce\xb1", 0}, {codes(2, 3), codes(5, 3), "\xe4", "", "", api.ErrRange}, {codes(1), codes(4), "a", "", "", api.ErrNone}, {codes(4, 1), codes(2, 1), "\xdc\x00", "", "", api.ErrData}, {codes(4, 1), codes(2, 1), "\x00\xe4", "", "", api.ErrRange}, {codes(9), codes(2), "a", "", "", api.ErrInvalid}, {codes(1), codes(4), strings.Repeat("a", 65537), "", "", api.ErrLong}, {codes(1, 4), codes(4), strings.Repeat("a", 40000), "", "", api.ErrLimit},
	} {
		if sent, taken, e := Carry(c.client, c.server, c.s); sent != c.sent || taken != c.taken || e != c.e {
			t.Errorf("%v %v: %q %q %d", c.client, c.server, sent, taken, e)
		}
	}
}

func TestCodes(t *testing.T) {
	for s, want := range map[string]api.Codes{"ascii": codes(1), "greek,utf8,latin": codes(5, 3, 2), "utf16,ascii,latin,utf8,greek": codes(4, 1, 2, 3, 5)} {
		if c, e := Parse(s); !reflect.DeepEqual(c, want) || e != api.OK || Format(c) != s || !Valid(c) {
			t.Error(s, c, e)
		}
	}
	for _, s := range []string{"", ",", "ascii,", "ascii,ascii", "utf-8", "ascii, latin", "Ascii"} {
		if c, e := Parse(s); e != api.ErrSyntax || !reflect.DeepEqual(c, api.Codes{}) {
			t.Error(s, e)
		}
	}
	if _, e := Parse(strings.Repeat("a", 65537)); e != api.ErrLong {
		t.Error(e)
	}
	for _, c := range []api.Codes{{}, codes(6), codes(-1), codes(1, 1), codes(1, 2, 2), codes(1, 0), codes(1, 2, 3, 4, 5, 6)} {
		if Valid(c) || Format(c) != "" {
			t.Error(c)
		}
	}
}

func TestRandom(t *testing.T) {
	s := sample.New(41)
	for range 3000 {
		from, to := 1+s.Int(5), 1+s.Int(5)
		text := s.Text("ab\x00\xc3\xa4\xd8\xdc\xe2\x82\xac\xf0\x90\x80\x81", 8)
		l, e := Points(from, text)
		at, e2 := Right(from, text)
		if e != e2 || e == 0 && at != len(text) {
			t.Fatal(text, e, e2)
		}
		if e != 0 {
			continue
		}
		if again, e := Text(from, l); again != text || e != 0 {
			t.Fatal(text, again)
		}
		out, at, e := Convert(from, to, text)
		if held, _ := Holds(to, from); held && e != 0 {
			t.Fatal("held", from, to, text)
		}
		if e == 0 {
			if back, _, e := Convert(to, from, out); back != text || e != 0 || at != 0 {
				t.Fatal(from, to, text, back)
			}
			m, _ := Points(to, out)
			if !slices.Equal(l, m) {
				t.Fatal("points")
			}
		}
		a, b := codes(from, to%5+1), codes(to, from%5+1)
		if Valid(a) && Valid(b) {
			if _, taken, e := Carry(a, b, text); e == 0 {
				if m, _ := Points(b.Native, taken); !slices.Equal(l, m) {
					t.Fatal("carried")
				}
			}
		}
	}
}
