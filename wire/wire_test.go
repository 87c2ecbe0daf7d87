package wire

import (
	"fmt"
	"reflect"
	"strings"
	"testing"

	"intermede/api"
	"intermede/sample"
)

func ask(answer bool) api.Message {
	return api.Message{Kind: api.MRequest, Answer: answer, Key: "k", Op: "o"}
}

func numbered(m api.Message, n int) api.Message {
	m.Number = n
	return m
}

func reply(n int) api.Message { return api.Message{Kind: api.MReply, Number: n} }

var locate = api.Message{Kind: api.MLocate, Key: "k"}

func located(n int) api.Message {
	return api.Message{Kind: api.MLocated, Number: n, State: api.SHere}
}

// show writes events, messages, and what an end is then.
func show(e *End, told []api.Event, sent []api.Message, errno api.Errno) string {
	var l []string
	for _, x := range told {
		l = append(l, fmt.Sprintf("e%d.%d", x.Kind, x.Number))
	}
	for _, m := range sent {
		l = append(l, fmt.Sprintf("m%d.%d", m.Kind, m.Number))
	}
	if errno != api.OK {
		l = append(l, fmt.Sprintf("!%d", errno))
	}
	return strings.Join(append(l, fmt.Sprintf("%v %v %v %d", e.Waiting(), e.Served(), e.Held(), e.State())), " ")
}

func end(t *testing.T, opener, both, ordered bool, most int) *End {
	t.Helper()
	e, errno := New(opener, both, ordered, most)
	if errno != api.OK {
		t.Fatal(errno)
	}
	return e
}

func TestAsk(t *testing.T) {
	e := end(t, true, false, false, 2)
	asks := func(m api.Message) string {
		m, errno := e.Ask(m)
		return fmt.Sprintf("%d %d %v", m.Number, errno, e.Waiting())
	}
	for i, c := range [][2]string{{asks(ask(true)), "1 0 [1]"}, {asks(ask(false)), "3 0 [1]"}, {asks(locate), "5 0 [1 5]"}, {asks(ask(true)), "0 4 [1 5]"}, {asks(ask(false)), "7 0 [1 5]"}, {asks(reply(0)), "0 1 [1 5]"}, {asks(numbered(locate, 1)), "0 1 [1 5]"}, {asks(api.Message{Kind: api.MRequest}), "0 1 [1 5]"}} {
		if c[0] != c[1] {
			t.Errorf("%d: %s", i, c[0])
		}
	}
	more := ask(true)
	more.More = true
	if _, errno := e.Ask(more); errno != api.ErrInvalid {
		t.Error(errno)
	}
	m, errno := e.Cancel(5)
	if !reflect.DeepEqual(m, api.Message{Kind: api.MCancel, Number: 5}) || errno != api.OK || fmt.Sprint(e.Waiting()) != "[1]" {
		t.Error(m, errno)
	}
	if _, errno := e.Cancel(5); errno != api.ErrNone {
		t.Error(errno)
	}
	other := end(t, false, false, false, 2)
	if _, errno := other.Ask(ask(true)); errno != api.ErrState {
		t.Error(errno)
	}
	both := end(t, false, true, false, 2)
	if m, errno := both.Ask(ask(true)); m.Number != 2 || errno != api.OK {
		t.Error(m, errno)
	}
	for _, most := range []int{0, 101, -1} {
		if e, errno := New(true, true, true, most); errno != api.ErrRange || e != nil {
			t.Error(most)
		}
	}
}

func TestTake(t *testing.T) {
	e := end(t, true, true, false, 2)
	take := func(m api.Message) string {
		told, sent, errno := e.Take(m)
		return show(e, told, sent, errno)
	}
	e.Ask(ask(true))
	e.Ask(locate)
	e.Ask(ask(true))
	for i, c := range [][2]string{
		{take(located(1)), "e3.1 [1 3] [] [] 0"}, {take(reply(3)), "e3.3 [1 3] [] [] 0"}, {take(reply(1)), "e2.1 [3] [] [] 0"}, {take(reply(1)), "e3.1 [3] [] [] 0"}, {take(located(3)), "e2.3 [] [] [] 0"}, {take(numbered(ask(true), 2)), "e1.2 [] [2] [] 0"}, {take(numbered(ask(false), 4)), "e1.4 [] [2] [] 0"}, {take(numbered(locate, 10)), "e1.10 [] [2 10] [] 0"}, {take(numbered(ask(false), 12)), "e1.12 [] [2 10] [] 0"}, {take(api.Message{Kind: api.MCancel, Number: 2}), "e4.2 [] [2 10] [] 0"}, {take(api.Message{Kind: api.MCancel, Number: 2}), "e4.2 [] [2 10] [] 0"}, {take(api.Message{Kind: api.MCancel, Number: 4}), "[] [2 10] [] 0"},
		{take(api.Message{Kind: api.MRequest}), "!1 [] [2 10] [] 0"}, {take(api.Message{Kind: api.MReply, More: true}), "!1 [] [2 10] [] 0"},
	} {
		if c[0] != c[1] {
			t.Errorf("%d: %s instead of %s", i, c[0], c[1])
		}
	}
	for i, c := range []struct {
		m    api.Message
		errs api.Errno
		want string
	}{{reply(10), api.ErrKind, ""}, {located(2), api.ErrKind, ""}, {reply(4), api.ErrNone, ""}, {ask(true), api.ErrInvalid, ""}, {api.Message{Kind: api.MReply, Number: 10, More: true}, api.ErrInvalid, ""}, {reply(2), 0, "[] [10] [] 0"}, {located(10), 0, "m4.10 [] [] [] 0"}, {located(10), api.ErrNone, ""}} {
		sent, errno := e.Answer(c.m)
		if errno != c.errs || errno == api.OK && show(e, nil, sent, errno) != c.want {
			t.Error(i, show(e, nil, sent, errno))
		}
	}
}

func TestBroken(t *testing.T) {
	for i, c := range []struct {
		opener, both bool
		before       []api.Message
		m            api.Message
		want         string
	}{
		{false, false, nil, numbered(ask(true), 2), "e6.0 m6.0"}, {false, false, nil, numbered(ask(true), 0), "e6.0 m6.0"}, {true, true, nil, numbered(ask(true), 1), "e6.0 m6.0"}, {true, false, nil, numbered(ask(true), 2), "e6.0 m6.0"}, {false, false, []api.Message{numbered(ask(true), 3)}, numbered(ask(true), 3), "e6.0 m6.0"}, {false, false, []api.Message{numbered(ask(false), 3)}, numbered(locate, 1), "e6.0 m6.0"}, {false, false, []api.Message{numbered(ask(true), 1), numbered(ask(true), 3)}, numbered(ask(true), 5), "e6.0 m6.0"}, {false, false, []api.Message{numbered(ask(true), 1), numbered(ask(true), 3)}, numbered(ask(false), 5), "e1.5"}, {false, false, nil, api.Message{Kind: api.MFragment, Number: 1, Big: true, More: true, Body: "x"}, "e6.0 m6.0"}, {false, false, nil, api.Message{Kind: api.MError}, "e6.0"},
		{false, false, []api.Message{numbered(ask(true), 1), {Kind: api.MClose}}, reply(1), "e6.0 m6.0"}, {false, false, []api.Message{numbered(ask(true), 1), {Kind: api.MClose}}, api.Message{Kind: api.MClose, Big: true}, "e6.0 m6.0"}, {false, false, []api.Message{numbered(ask(true), 1), {Kind: api.MClose}}, api.Message{Kind: api.MError}, "e6.0"},
	} {
		e := end(t, c.opener, c.both, true, 2)
		for _, m := range c.before {
			e.Take(m)
		}
		told, sent, errno := e.Take(c.m)
		got := show(e, told, sent, errno)
		want := c.want + " [] [] [] 2"
		if c.want == "e1.5" {
			want = "e1.5 [] [1 3] [] 0"
		}
		if got != want || len(sent) > 0 && sent[0].Big != c.m.Big {
			t.Errorf("%d: %s instead of %s", i, got, want)
		}
		if _, _, errno := e.Take(c.m); c.want != "e1.5" && errno != api.ErrState {
			t.Error(i, errno)
		}
	}
	e := end(t, true, false, false, 5)
	e.Ask(ask(true))
	e.Ask(locate)
	told, sent, errno := e.Take(api.Message{Kind: api.MError})
	if s := show(e, told, sent, errno); s != "e6.1 e6.3 [] [] [] 2" {
		t.Error(s)
	}
	e = end(t, true, false, false, 5)
	e.Ask(ask(true))
	if told, errno := e.Break(); show(e, told, nil, errno) != "e6.1 [] [] [] 2" {
		t.Error(told)
	}
	if _, errno := e.Break(); errno != api.ErrState {
		t.Error(errno)
	}
}

func TestOrdered(t *testing.T) {
	e := end(t, false, true, true, 3)
	for _, n := range []int{1, 3, 5} {
		e.Take(numbered(ask(true), n))
	}
	answer := func(n int) string {
		sent, errno := e.Answer(reply(n))
		return show(e, nil, sent, errno)
	}
	for i, c := range [][2]string{{answer(5), "[] [1 3] [5] 0"}, {answer(5), "!8 [] [1 3] [5] 0"}, {answer(1), "m1.1 [] [3] [5] 0"}} {
		if c[0] != c[1] {
			t.Errorf("%d: %s", i, c[0])
		}
	}
	if told, _, _ := e.Take(api.Message{Kind: api.MCancel, Number: 5}); len(told) != 0 {
		t.Error("a held one is served no more")
	}
	e.Take(numbered(ask(true), 7))
	e.Take(numbered(ask(true), 9))
	e.Take(api.Message{Kind: api.MCancel, Number: 3})
	for i, c := range [][2]string{{answer(7), "[] [3 9] [5 7] 0"}, {answer(3), "m1.5 m1.7 [] [9] [] 0"}, {answer(9), "m1.9 [] [] [] 0"}} {
		if c[0] != c[1] {
			t.Errorf("%d: %s", i, c[0])
		}
	}
}

func TestClose(t *testing.T) {
	e := end(t, false, true, true, 5)
	closes := func() string {
		sent, errno := e.Close()
		return show(e, nil, sent, errno)
	}
	take := func(m api.Message) string {
		told, sent, errno := e.Take(m)
		return show(e, told, sent, errno)
	}
	answer := func(n int) string {
		sent, errno := e.Answer(reply(n))
		return show(e, nil, sent, errno)
	}
	if s := closes(); s != "m5.0 [] [] [] 2" {
		t.Error(s)
	}
	if s := closes(); s != "!9 [] [] [] 2" {
		t.Error(s)
	}
	e = end(t, false, true, true, 5)
	e.Ask(ask(true))
	if s := closes(); s != "m5.0 [2] [] [] 1" {
		t.Error(s)
	}
	if _, errno := e.Ask(ask(true)); errno != api.ErrState {
		t.Error(errno)
	}
	for i, c := range [][2]string{{closes(), "!9 [2] [] [] 1"}, {take(numbered(ask(true), 1)), "[2] [] [] 1"}, {take(reply(2)), "e2.2 [] [] [] 2"}, {take(reply(2)), "!9 [] [] [] 2"}} {
		if c[0] != c[1] {
			t.Errorf("%d: %s", i, c[0])
		}
	}
	e = end(t, false, true, true, 5)
	e.Ask(ask(true))
	e.Ask(ask(true))
	take(numbered(ask(true), 1))
	take(numbered(ask(true), 3))
	for i, c := range [][2]string{{closes(), "[2 4] [1 3] [] 1"}, {answer(3), "[2 4] [1] [3] 1"}, {take(reply(2)), "e2.2 [4] [1] [3] 1"}, {answer(1), "m1.1 m1.3 m5.0 [4] [] [] 1"}, {take(api.Message{Kind: api.MClose}), "e5.4 [] [] [] 2"}} {
		if c[0] != c[1] {
			t.Errorf("%d: %s", i, c[0])
		}
	}
	e = end(t, false, true, true, 5)
	e.Ask(ask(true))
	take(numbered(ask(true), 1))
	for i, c := range [][2]string{{take(api.Message{Kind: api.MClose}), "e5.2 [] [1] [] 1"}, {closes(), "!9 [] [1] [] 1"}, {answer(1), "m1.1 [] [] [] 2"}} {
		if c[0] != c[1] {
			t.Errorf("%d: %s", i, c[0])
		}
	}
	e = end(t, false, true, true, 5)
	take(numbered(ask(true), 1))
	closes()
	for i, c := range [][2]string{{take(api.Message{Kind: api.MClose}), "e5.0 [] [1] [] 1"}, {answer(1), "m1.1 [] [] [] 2"}} {
		if c[0] != c[1] {
			t.Errorf("%d: %s", i, c[0])
		}
	}
	e = end(t, false, true, true, 5)
	e.Ask(ask(true))
	closes()
	if _, errno := e.Cancel(2); errno != api.OK || e.State() != 2 {
		t.Error("Cancel closes", e.State())
	}
}

func TestNil(t *testing.T) {
	var e *End
	_, e1 := e.Ask(ask(true))
	_, e2 := e.Cancel(1)
	_, _, e3 := e.Take(reply(1))
	_, e4 := e.Answer(reply(1))
	_, e5 := e.Close()
	_, e6 := e.Break()
	_, e7 := Pair(nil, nil, nil)
	for i, errno := range []api.Errno{e1, e2, e3, e4, e5, e6, e7} {
		if errno != api.ErrInvalid {
			t.Error(i, errno)
		}
	}
	if e.State() != 2 || e.Waiting() != nil || e.Served() != nil || e.Held() != nil {
		t.Error("nil")
	}
}

func TestPair(t *testing.T) {
	pair := func() (*End, *End) { return end(t, true, true, true, 5), end(t, false, true, true, 5) }
	talk := func(x api.Talk) string {
		s := ""
		for _, event := range x.Events {
			s += fmt.Sprintf("%d:%d.%d ", event.End, event.Kind, event.Number)
		}
		return s + fmt.Sprint(x.Left)
	}
	move := func(kind, end int) api.Move { return api.Move{Kind: kind, End: end} }
	asks := func(end int) api.Move { return api.Move{Kind: 1, End: end, Message: ask(true)} }
	answers := func(end int) api.Move { return api.Move{Kind: 3, End: end, Message: reply(0)} }
	for i, c := range []struct {
		l    []api.Move
		want string
	}{
		{nil, "[0 0]"}, {[]api.Move{asks(0), asks(1), move(2, 0), move(2, 1)}, "0:1.2 1:1.1 [0 0]"}, {[]api.Move{asks(0), move(2, 1), answers(1), answers(1), move(2, 0), move(2, 0)}, "1:1.1 0:2.1 [0 0]"}, {[]api.Move{asks(0), asks(0), {Kind: 4, End: 0, Number: 1}, {Kind: 4, Number: 9}, move(2, 1), move(2, 1), move(2, 1), answers(1), answers(1), move(2, 0)}, "1:1.1 1:1.3 1:4.1 0:2.3 [0 0]"},
		{[]api.Move{asks(0), move(5, 1), move(2, 1), move(2, 0)}, "0:5.1 [0 1]"}, {[]api.Move{asks(0), move(2, 1), move(6, 0), move(2, 0)}, "1:1.1 0:6.1 1:6.0 [0 0]"}, {[]api.Move{asks(0), move(6, 0), asks(0), move(5, 1), move(2, 1)}, "0:6.1 1:6.0 [0 0]"}, {[]api.Move{asks(0), asks(1)}, "[1 1]"},
	} {
		a, b := pair()
		x, errno := Pair(a, b, c.l)
		if talk(x) != c.want || errno != api.OK {
			t.Errorf("%d: %s", i, talk(x))
		}
	}
	a, b := pair()
	for i, l := range [][]api.Move{{move(0, 0)}, {move(7, 0)}, {move(1, 2)}, {move(1, -1)}, make([]api.Move, 1001)} {
		if _, errno := Pair(a, b, l); errno != api.ErrInvalid {
			t.Error(i, errno)
		}
	}
	for i, c := range [][2]*End{{a, a}, {b, b}, {b, a}, {a, nil}} {
		if _, errno := Pair(c[0], c[1], nil); errno != api.ErrInvalid {
			t.Error(i, errno)
		}
	}
}

func TestOnce(t *testing.T) {
	s := sample.New(81)
	for range 400 {
		a, b := end(t, true, true, s.Int(2) == 0, 1+s.Int(4)), end(t, false, true, s.Int(2) == 0, 1+s.Int(4))
		var l []api.Move
		for range 60 {
			m := api.Move{Kind: 1 + s.Int(4), End: s.Int(2), Number: 1 + s.Int(9)}
			if s.Int(40) == 0 {
				m.Kind = 5 + s.Int(2)
			}
			switch m.Kind {
			case 1:
				m.Message = ask(s.Int(4) > 0)
				if s.Int(4) == 0 {
					m.Message = locate
				}
			case 3:
				m.Message = reply(0)
				if s.Int(4) == 0 {
					m.Message = located(0)
				}
			}
			l = append(l, m)
		}
		x, errno := Pair(a, b, l)
		if errno != api.OK {
			t.Fatal(errno)
		}
		told := map[[2]int]int{}
		last := [2]int{-1, -1}
		for _, event := range x.Events {
			switch event.Kind {
			case asked:
				if event.Number <= last[event.End] || event.Number%2 != event.End {
					t.Fatal("numbers")
				}
				last[event.End] = event.Number
			case answered, closed, broken:
				told[[2]int{event.End, event.Number}]++
			}
		}
		for key, n := range told {
			if n > 1 && key[1] != 0 {
				t.Fatal("told twice", key)
			}
		}
	}
}
