package msg

import (
	"math"
	"strings"
	"testing"

	"intermede/api"
	"intermede/sample"
)

func request(body string) api.Message {
	return api.Message{Kind: api.MRequest, Big: true, Number: 7, Answer: true, Key: "k", Op: "op", Contexts: []api.Context{{Tag: 2, Text: "ab"}}, Body: body}
}

func TestValid(t *testing.T) {
	contexts := func(n int) []api.Context {
		var l []api.Context
		for i := range n {
			l = append(l, api.Context{Tag: i})
		}
		return l
	}
	with := func(change func(*api.Message)) api.Message {
		m := request("x")
		change(&m)
		return m
	}
	for i, c := range []struct {
		m    api.Message
		want bool
	}{
		{request(""), true}, {with(func(m *api.Message) { m.More = true }), true}, {with(func(m *api.Message) { m.Number = -1 }), false}, {with(func(m *api.Message) { m.Number = math.MaxInt32 }), true}, {with(func(m *api.Message) { m.Number = 1 << 31 }), false}, {with(func(m *api.Message) { m.Key = "" }), false}, {with(func(m *api.Message) { m.Key = strings.Repeat("\x00", 200) }), true}, {with(func(m *api.Message) { m.Key = strings.Repeat("k", 201) }), false}, {with(func(m *api.Message) { m.Op = "" }), false}, {with(func(m *api.Message) { m.Op = strings.Repeat("~", 40) }), true}, {with(func(m *api.Message) { m.Op = strings.Repeat("o", 41) }), false}, {with(func(m *api.Message) { m.Op = "a b" }), false}, {with(func(m *api.Message) { m.Op = "a\x7f" }), false}, {with(func(m *api.Message) { m.State = 1 }), false},
		{with(func(m *api.Message) { m.Contexts = contexts(16) }), true}, {with(func(m *api.Message) { m.Contexts = contexts(17) }), false}, {with(func(m *api.Message) { m.Contexts = []api.Context{{Tag: 1}, {Tag: 1}} }), false}, {with(func(m *api.Message) { m.Contexts = []api.Context{{Tag: -1}} }), false}, {with(func(m *api.Message) { m.Contexts = []api.Context{{Tag: 1 << 31}} }), false}, {with(func(m *api.Message) { m.Contexts[0].Text = strings.Repeat("x", 1001) }), false}, {with(func(m *api.Message) { m.Body = strings.Repeat("x", api.MaxBytes-8192) }), true}, {with(func(m *api.Message) { m.Body = strings.Repeat("x", api.MaxBytes-8191) }), false},
		{api.Message{Kind: api.MReply, State: api.SForever, More: true, Body: "x", Contexts: contexts(1)}, true}, {api.Message{Kind: api.MReply, State: api.SUnknown}, false}, {api.Message{Kind: api.MReply, State: -1}, false}, {api.Message{Kind: api.MReply, Key: "k"}, false}, {api.Message{Kind: api.MReply, Answer: true}, false}, {api.Message{Kind: api.MCancel, Number: 3}, true}, {api.Message{Kind: api.MCancel, More: true}, false}, {api.Message{Kind: api.MCancel, Body: "x"}, false}, {api.Message{Kind: api.MLocate, Key: "k"}, true}, {api.Message{Kind: api.MLocate}, false}, {api.Message{Kind: api.MLocate, Key: "k", Op: "o"}, false}, {api.Message{Kind: api.MLocated, State: api.SHere}, true}, {api.Message{Kind: api.MLocated, State: api.SHere, Body: "x"}, false}, {api.Message{Kind: api.MLocated, State: api.SForward, Body: "x"}, true}, {api.Message{Kind: api.MLocated, State: api.SForever}, true}, {api.Message{Kind: api.MLocated}, false}, {api.Message{Kind: api.MLocated, State: 7}, false},
		{api.Message{Kind: api.MClose, Big: true}, true}, {api.Message{Kind: api.MClose, Number: 1}, false}, {api.Message{Kind: api.MError}, true}, {api.Message{Kind: api.MError, More: true}, false}, {api.Message{Kind: api.MFragment}, true}, {api.Message{Kind: api.MFragment, More: true}, false}, {api.Message{Kind: api.MFragment, More: true, Body: "x"}, true}, {api.Message{Kind: api.MFragment, Contexts: contexts(1)}, false}, {api.Message{Kind: 8}, false}, {api.Message{Kind: -1}, false},
	} {
		if Valid(c.m) != c.want || (Format(c.m) != "") != c.want {
			t.Error(i)
		}
		s, e := Encode(c.m)
		if c.want != (e == api.OK) || !c.want && (e != api.ErrInvalid || s != "") {
			t.Error(i, e)
		}
		if c.want {
			continue
		}
		_, e1 := Place(c.m)
		_, e2 := Cut(c.m, 3)
		_, e3 := Join([]api.Message{c.m})
		_, e4 := Context(c.m, 1)
		_, e5 := With(c.m, -1, "")
		_, e6 := Turn(c.m)
		for j, e := range []api.Errno{e1, e2, e3, e4, e5, e6} {
			if e != api.ErrInvalid {
				t.Error(i, j, e)
			}
		}
	}
}

func TestForms(t *testing.T) {
	for s, m := range map[string]api.Message{
		"IMED\x01\x01\x05\x00\x00\x00\x00\x00":                 {Kind: api.MClose, Big: true},
		"IMED\x01\x00\x06\x00\x00\x00\x00\x00":                 {Kind: api.MError},
		"IMED\x01\x00\x02\x00\x04\x00\x00\x00\x07\x00\x00\x00": {Kind: api.MCancel, Number: 7},
		"IMED\x01\x01\x00\x00\x00\x00\x00\x2d\x00\x00\x00\x07\x01\x00\x00\x00\x00\x00\x00\x01k\x00\x00\x00\x00\x00\x00\x03op\x00\x00\x00\x00\x00\x01\x00\x00\x00\x02\x00\x00\x00\x02ab\x00\x00\x00\x00\x00\x00!": request("!"),
		"IMED\x01\x03\x07\x00\x00\x00\x00\x05\x00\x00\x00\x01x":                                 {Kind: api.MFragment, Big: true, More: true, Number: 1, Body: "x"},
		"IMED\x01\x01\x04\x00\x00\x00\x00\x0d\x00\x00\x00\x01\x03\x00\x00\x00\x00\x00\x00\x00r": {Kind: api.MLocated, Big: true, Number: 1, State: api.SForward, Body: "r"},
		"IMED\x01\x01\x01\x00\x00\x00\x00\x0c\x00\x00\x00\x01\x02\x00\x00\x00\x00\x00\x00\x00":  {Kind: api.MReply, Big: true, Number: 1, State: api.SSystem},
		"IMED\x01\x01\x03\x00\x00\x00\x00\x09\x00\x00\x00\x01\x00\x00\x00\x01k":                 {Kind: api.MLocate, Big: true, Number: 1, Key: "k"},
	} {
		if m.Kind == api.MRequest {
			s = s[:11] + string(rune(len(s)-12)) + s[12:]
		}
		got, e := Encode(m)
		if got != s || e != api.OK {
			t.Errorf("%q instead of %q", got, s)
		}
		x, used, bad, e := Decode(s + "rest")
		if !Same(x, m) || used != len(s) || bad != -1 || e != api.OK {
			t.Errorf("%q: %d %d %d", s, used, bad, e)
		}
		if n, e := Need(s[:12]); n != len(s) || e != api.OK {
			t.Error(n, e)
		}
		place, e := Place(m)
		if e != api.OK || place%8 != 0 || m.Body != "" && s[place:] != m.Body {
			t.Error(place, e)
		}
	}
	if n, _ := Place(api.Message{Kind: api.MClose}); n != 16 {
		t.Error(n)
	}
}

func TestWrong(t *testing.T) {
	head := "IMED\x01\x01"
	for i, c := range []struct {
		s   string
		bad int
		e   api.Errno
	}{
		{"", -1, api.ErrNone}, {"IME", -1, api.ErrNone}, {"IMEX", 3, api.ErrData}, {"IMED\x02", 4, api.ErrData}, {"IMED\x01\x04", 5, api.ErrData}, {head + "\x08", 6, api.ErrData}, {"IMED\x01\x02\x05", 5, api.ErrData}, {"IMED\x01\x02", -1, api.ErrNone}, {"IMED\x01\x02\x09", 6, api.ErrData}, {head + "\x05\x01", 7, api.ErrData}, {head + "\x05\x00\xff\xff\xff\xff", 8, api.ErrData}, {head + "\x05\x00\x00\x00\xff\xf5", 8, api.ErrData}, {head + "\x05\x00\xff\xff\xff", -1, api.ErrNone},
		{head + "\x02\x00\x00\x00\x00\x00", 12, api.ErrData}, {head + "\x02\x00\x00\x00\x00\x03\x00", -1, api.ErrNone}, {head + "\x02\x00\x00\x00\x00\x03\x00\x00\x00", 15, api.ErrData}, {head + "\x02\x00\x00\x00\x00\x04\xff\x00\x00\x00", 12, api.ErrData}, {head + "\x02\x00\x00\x00\x00\x04\xff\x00", -1, api.ErrNone}, {head + "\x02\x00\x00\x00\x00\x05\x00\x00\x00\x00\x00", 16, api.ErrData}, {head + "\x02\x00\x00\x00\x00\x05\x00\x00\x00\x00", -1, api.ErrNone},
		{head + "\x05\x00\x00\x00\x00\x01", -1, api.ErrNone}, {head + "\x05\x00\x00\x00\x00\x01\x00", 12, api.ErrData}, {head + "\x05\x00\x00\x00\x00\x04\x00", 12, api.ErrData}, {head + "\x05\x00\x00\x00\x00\x05\x00\x00\x00\x00", -1, api.ErrNone}, {head + "\x05\x00\x00\x00\x00\x05\x00\x00\x00\x00\x09", 16, api.ErrData}, {head + "\x05\x00\x00\x00\x00\x05\x00\x07", 13, api.ErrData},
		{head + "\x03\x00\x00\x00\x00\x09\x00\x00\x00\x01\x00\x00\x00\x02", 16, api.ErrData}, {head + "\x03\x00\x00\x00\x00\x08\x00\x00\x00\x01\x00\x00\x00\x01", 16, api.ErrData}, {head + "\x03\x00\x00\x00\x01\x00\x00\x00\x00\x01\x00\x00\x00\x00", 16, api.ErrData}, {head + "\x03\x00\x00\x00\x01\x00\x00\x00\x00\x01\x00\x00\x00\xc9", 16, api.ErrData}, {head + "\x03\x00\x00\x00\x00\x06\x00\x00\x00\x01\x00\x00", 18, api.ErrData},
		{head + "\x04\x00\x00\x00\x00\x05\x00\x00\x00\x01\x02", 16, api.ErrData}, {head + "\x04\x00\x00\x00\x00\x05\x00\x00\x00\x01\x07", 16, api.ErrData}, {head + "\x01\x00\x00\x00\x00\x0c\x00\x00\x00\x01\x05", 16, api.ErrData}, {head + "\x04\x00\x00\x00\x00\x0d\x00\x00\x00\x01\x06\x00\x00\x00\x00\x00\x00\x00r", 24, api.ErrData}, {head + "\x04\x00\x00\x00\x00\x0c\x00\x00\x00\x01\x03\x00\x00\x00\x00\x00\x00\x00", 17, api.ErrData}, {head + "\x04\x00\x00\x00\x00\x0d\x00\x00\x00\x01\x03\x00\x01", 18, api.ErrData}, {head + "\x04\x00\x00\x00\x00\x0c\x00\x00\x00\x01\x03", -1, api.ErrNone},
		{"IMED\x01\x03\x07\x00\x00\x00\x00\x04\x00\x00\x00\x01", 16, api.ErrData}, {"IMED\x01\x03\x07\x00\x00\x00\x00\x04\x00\x00\x00", -1, api.ErrNone}, {head + "\x07\x00\x00\x00\xff\xf4\x00\x00\x00\x01", -1, api.ErrNone}, {head + "\x07\x00\x00\x00\xff\xf4\x00\x00\x00\x01x", 16, api.ErrData}, {head + "\x07\x00\x00\x00\xe0\x04\x00\x00\x00\x01x", -1, api.ErrNone},
		{head + "\x00\x00\x00\x00\x00\x80\x00\x00\x00\x01\x02", 16, api.ErrData}, {head + "\x00\x00\x00\x00\x00\x80\x00\x00\x00\x01\x01\x00\x01", 18, api.ErrData}, {head + "\x00\x00\x00\x00\x00\x80\x00\x00\x00\x01\x01\x00\x00\x00\x00\x00\x00\x01k\x00\x00\x00\x00\x00\x00\x01", 28, api.ErrData}, {head + "\x00\x00\x00\x00\x00\x80\x00\x00\x00\x01\x01\x00\x00\x00\x00\x00\x00\x01k\x00\x00\x00\x00\x00\x00\x2a", 28, api.ErrData}, {head + "\x00\x00\x00\x00\x00\x80\x00\x00\x00\x01\x01\x00\x00\x00\x00\x00\x00\x01k\x00\x00\x00\x00\x00\x00\x04a ", 33, api.ErrData}, {head + "\x00\x00\x00\x00\x00\x80\x00\x00\x00\x01\x01\x00\x00\x00\x00\x00\x00\x01k\x00\x00\x00\x00\x00\x00\x03a\x00", 33, api.ErrData}, {head + "\x00\x00\x00\x00\x00\x80\x00\x00\x00\x01\x01\x00\x00\x00\x00\x00\x00\x01k\x00\x00\x00\x00\x00\x00\x03abc", 34, api.ErrData},
		{head + "\x01\x00\x00\x00\x00\x80\x00\x00\x00\x01\x00\x00\x00\x00\x00\x00\x00\x11", 20, api.ErrData}, {head + "\x01\x00\x00\x00\x00\x80\x00\x00\x00\x01\x00\x00\x00\x00\x00\x00\x00\x02\xff\x00\x00\x00", 24, api.ErrData}, {head + "\x01\x00\x00\x00\x00\x80\x00\x00\x00\x01\x00\x00\x00\x00\x00\x00\x00\x02\x00\x00\x00\x05\x00\x00\x00\x00\x00\x00\x00\x05", 32, api.ErrData}, {head + "\x01\x00\x00\x00\x08\x00\x00\x00\x00\x01\x00\x00\x00\x00\x00\x00\x00\x02\x00\x00\x00\x05\x00\x00\x03\xe9", 28, api.ErrData},
	} {
		m, used, bad, e := Decode(c.s)
		if bad != c.bad || e != c.e || used != 0 || !Same(m, api.Message{}) {
			t.Errorf("%d: %q: %d at %d", i, c.s, e, bad)
		}
		if e == api.ErrData && bad < len(c.s) {
			if _, _, before, e := Decode(c.s[:bad]); e != api.ErrNone {
				t.Errorf("%d: before: %d at %d", i, e, before)
			}
		}
		n, e2 := Need(c.s)
		if len(c.s) < 12 && (e2 != c.e || n != 0) {
			t.Errorf("%d: Need %d", i, e2)
		}
	}
}

func TestCut(t *testing.T) {
	m := request(strings.Repeat("x", 20))
	l, e := Cut(m, 8)
	if e != api.OK || len(l) != 3 || !l[0].More || len(l[0].Contexts) != 1 || l[1].Kind != api.MFragment || !l[1].More || l[1].Number != 7 || !l[1].Big || l[2].More || len(l[2].Body) != 4 {
		t.Error(l, e)
	}
	if back, e := Join(l); e != api.OK || !Same(back, m) {
		t.Error(e)
	}
	if one, e := Cut(m, 24); e != api.OK || len(one) != 1 || !Same(one[0], m) {
		t.Error(e)
	}
	if two, _ := Cut(request(strings.Repeat("x", 16)), 8); len(two) != 2 {
		t.Error(len(two))
	}
	more := m
	more.More = true
	fragment := api.Message{Kind: api.MFragment, Number: 7, Big: true, Body: "y"}
	big := request(strings.Repeat("x", maxBody))
	big.More = true
	other, little, open := fragment, fragment, fragment
	other.Number, little.Big, open.More = 8, false, true
	for i, c := range [][2]api.Errno{
		{errno(Cut(more, 3)), api.ErrState}, {errno(Cut(fragment, 3)), api.ErrKind}, {errno(Cut(m, 0)), api.ErrRange}, {errno(Cut(m, 12)), api.ErrRange}, {errno(Cut(m, -8)), api.ErrRange}, {errno(Join(nil)), api.ErrSize}, {errno(Join([]api.Message{fragment})), api.ErrKind}, {errno(Join([]api.Message{more, more})), api.ErrKind}, {errno(Join([]api.Message{m, fragment})), api.ErrState}, {errno(Join([]api.Message{more})), api.ErrState}, {errno(Join([]api.Message{more, other})), api.ErrState}, {errno(Join([]api.Message{more, little})), api.ErrState}, {errno(Join([]api.Message{more, open})), api.ErrState}, {errno(Join([]api.Message{big, fragment})), api.ErrLimit},
	} {
		if c[0] != c[1] {
			t.Error(i, c)
		}
	}
	large := request(strings.Repeat("x", maxBody))
	for i := range 10 {
		large.Contexts = append(large.Contexts, api.Context{Tag: 10 + i, Text: strings.Repeat("y", 1000)})
	}
	if _, e := Encode(large); e != api.ErrLimit {
		t.Error(e)
	}
}

func errno[T any](_ T, e api.Errno) api.Errno { return e }

func TestContexts(t *testing.T) {
	m := request("")
	if s, e := Context(m, 2); s != "ab" || e != api.OK {
		t.Error(s, e)
	}
	if _, e := Context(m, 3); e != api.ErrNone {
		t.Error(e)
	}
	x, e := With(m, 1, "z")
	if e != api.OK || len(x.Contexts) != 2 || x.Contexts[0].Tag != 1 || len(m.Contexts) != 1 {
		t.Error(x, e)
	}
	x, e = With(x, 2, "q")
	if s, _ := Context(x, 2); s != "q" || e != api.OK || m.Contexts[0].Text != "ab" {
		t.Error(s, e)
	}
	for i := range 16 {
		x, _ = With(x, i, "")
	}
	for i, c := range [][2]api.Errno{{errno(With(api.Message{Kind: api.MCancel}, -1, "")), api.ErrKind}, {errno(With(m, -1, strings.Repeat("x", 1001))), api.ErrRange}, {errno(With(m, 1<<31, "")), api.ErrRange}, {errno(With(m, 1, strings.Repeat("x", 1001))), api.ErrLong}, {errno(With(x, 20, "")), api.ErrLimit}, {errno(With(x, 3, "")), api.OK}} {
		if c[0] != c[1] {
			t.Error(i, c)
		}
	}
	y, e := Turn(m)
	if z, _ := Turn(y); e != api.OK || y.Big || !Same(z, m) {
		t.Error(e)
	}
	if Same(m, y) || Format(m) == Format(y) || !Same(api.Message{Contexts: []api.Context{}}, api.Message{}) {
		t.Error("Same")
	}
}

func random(s *sample.Source) api.Message {
	m := api.Message{Kind: s.Int(8), Big: s.Int(2) == 0}
	set := has(m.Kind)
	if set&hasNumber != 0 {
		m.Number = s.Int(1000)
	}
	m.Answer = set&hasAnswer != 0 && s.Int(2) == 0
	if set&hasKey != 0 {
		m.Key = "k" + s.Text("\x00\xffk", 5)
	}
	if set&hasOp != 0 {
		m.Op = "o" + s.Text("_~!", 5)
	}
	if set&hasState != 0 {
		m.State = 3 + s.Int(2)
	}
	if set&hasContexts != 0 {
		for i := range s.Int(4) {
			m.Contexts = append(m.Contexts, api.Context{Tag: i * 5, Text: s.Text("\x00x", 6)})
		}
	}
	if set&hasBody != 0 {
		m.Body = s.Text("\x00b", 20)
	}
	m.More = set&hasMore != 0 && m.Body != "" && s.Int(2) == 0
	return m
}

func TestRandom(t *testing.T) {
	s := sample.New(61)
	for range 1500 {
		var l []api.Message
		all := ""
		for range 1 + s.Int(4) {
			m := random(s)
			b, e := Encode(m)
			if e != api.OK {
				t.Fatal(e, Format(m))
			}
			x, used, bad, e := Decode(b)
			if !Same(x, m) || used != len(b) || bad != -1 || e != api.OK {
				t.Fatal(Format(m), Format(x), bad, e)
			}
			turned, _ := Turn(m)
			if other, _ := Encode(turned); len(other) != len(b) {
				t.Fatal("orders")
			}
			for i := range b {
				if _, _, bad, e := Decode(b[:i]); e != api.ErrNone || bad != -1 {
					t.Fatalf("%q: %d at %d", b[:i], e, bad)
				}
			}
			if isWhole(m.Kind) && !m.More {
				if pieces, e := Cut(m, 8*(1+s.Int(3))); e != api.OK {
					t.Fatal(e)
				} else if back, e := Join(pieces); e != api.OK || !Same(back, m) {
					t.Fatal("join", e)
				}
			}
			l = append(l, m)
			all += b
		}
		cut := s.Int(len(all) + 1)
		got, used, bad, e := All(all[:cut])
		rest, used2, _, e2 := All(all[used:])
		if e != api.OK || e2 != api.OK || bad != -1 || used+used2 != len(all) || len(got)+len(rest) != len(l) {
			t.Fatal("all", e, e2)
		}
		for i, m := range append(got, rest...) {
			if !Same(m, l[i]) {
				t.Fatal("all", i)
			}
		}
		firstWrong(t, s, all)
	}
}

func firstWrong(t *testing.T, s *sample.Source, all string) {
	b := []byte(all)
	b[s.Int(len(b))] ^= byte(1 << s.Int(8))
	got, used, bad, e := All(string(b))
	if e != api.ErrData {
		return
	}
	again, used2, bad2, e2 := All(string(b[:bad]))
	if len(again) != len(got) || used != used2 || e2 != api.OK && (e2 != api.ErrData || bad2 != bad) {
		t.Fatalf("%q: wrong at %d, then %d at %d", b, bad, e2, bad2)
	}
}
