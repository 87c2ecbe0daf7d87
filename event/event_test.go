package event

import (
	"fmt"
	"reflect"
	"slices"
	"strconv"
	"strings"
	"testing"

	"intermede/api"
	"intermede/sample"
)

func num(name string, n int) api.Prop  { return api.Prop{Name: name, Kind: 1, N: n} }
func word(name, s string) api.Prop     { return api.Prop{Name: name, Kind: 2, S: s} }
func flag(name string, n int) api.Prop { return api.Prop{Name: name, Kind: 3, N: n} }

func test(field string, op int, p api.Prop) api.Test { return api.Test{Field: field, Op: op, Prop: p} }

func happening(name string, priority, until int, fields ...api.Prop) api.Happening {
	return api.Happening{Type: name, Priority: priority, Until: until, Fields: fields}
}

func quality(order, most, discard int) api.Quality {
	return api.Quality{Order: order, Most: most, Discard: discard}
}

func text[T any](x T, e api.Errno) string {
	if e != api.OK {
		return fmt.Sprint("!", int(e))
	}
	return fmt.Sprint(x)
}

func types(l []api.Happening) string {
	s := ""
	for _, h := range l {
		s += h.Type
	}
	return s
}

func queueOf(c *Channel, consumer int) string {
	l, e := c.Queue(consumer)
	return text(types(l), e)
}

func pull(c *Channel, consumer int) string {
	h, e := c.Pull(consumer)
	return text(h.Type, e)
}

func counted(c *Channel, consumer int) string {
	taken, given, dropped, stale, e := c.Counts(consumer)
	return fmt.Sprint(taken, given, dropped, stale, int(e))
}

func pushed(c *Channel, most int) string {
	l, e := c.Push(most)
	s := ""
	for _, g := range l {
		s += strconv.Itoa(g.Consumer) + g.Happening.Type
	}
	return text(s, e)
}

// supplied supplies events of so many types, and tells how many consumers took them in.
func supplied(c *Channel, l ...api.Happening) string {
	s := ""
	for _, h := range l {
		s += text(c.Supply(h))
	}
	return s
}

type step struct{ got, want string }

func steps(t *testing.T, l []step) {
	t.Helper()
	for i, s := range l {
		if s.got != s.want {
			t.Errorf("%d: %q instead of %q", i, s.got, s.want)
		}
	}
}

func TestValidHappening(t *testing.T) {
	var many []api.Prop
	for i := range 21 {
		many = append(many, num("a"+strconv.Itoa(10+i), i))
	}
	for i, c := range []struct {
		h    api.Happening
		want bool
	}{{happening("", 0, 0), true}, {happening(strings.Repeat("x", 32), 100, api.MaxTime), true}, {happening(strings.Repeat("x", 33), 0, 0), false}, {happening("a", -1, 0), false}, {happening("a", 101, 0), false}, {happening("a", 0, -1), false}, {happening("a", 0, api.MaxTime+1), false}, {happening("a", 0, 0, many[:20]...), true}, {happening("a", 0, 0, many...), false}, {happening("a", 0, 0, num("a", 1), num("a", 1)), false}, {happening("a", 0, 0, num("b", 1), num("a", 1)), false}, {happening("a", 0, 0, num("min", 1)), false}, {happening("a", 0, 0, num("A", 1)), false}, {happening("a", 0, 0, num("", 1)), false}, {happening("a", 0, 0, num(strings.Repeat("a", 33), 1)), false}, {happening("a", 0, 0, num("a_1", 1000000000000000), flag("b", 1), word("c", "x")), true}, {happening("a", 0, 0, num("a", 1000000000000001)), false}, {happening("a", 0, 0, flag("a", 2)), false}, {happening("a", 0, 0, api.Prop{Name: "a", Kind: 2, N: 1}), false}, {happening("a", 0, 0, api.Prop{Name: "a", Kind: 4}), false}, {happening("a", 0, 0, api.Prop{Name: "a", Kind: 1, S: "x"}), false}, {happening("a", 0, 0, api.Prop{Name: "a", Kind: 1, L: []int{1}}), false}, {happening("a", 0, 0, word("a", strings.Repeat("x", api.MaxText+1))), false}, {happening("a", 0, 0, num("type", 1)), true}} {
		if ValidHappening(c.h) != c.want {
			t.Error("event", i)
		}
		if _, e := New().Supply(c.h); (e == api.OK) != c.want {
			t.Error("supply", i, e)
		}
		if Passes(nil, c.h) != c.want || Before(1, c.h, c.h) != c.want {
			t.Error("passes", i)
		}
	}
}

func TestValidTest(t *testing.T) {
	for i, c := range []struct {
		x    api.Test
		want bool
	}{{test("a", 1, num("", 1)), true}, {test("a", 1, num("b", 1)), true}, {test("a", 6, flag("", 1)), true}, {test("a", 7, word("", "x")), true}, {test("a", 7, num("", 1)), false}, {test("a", 0, num("", 1)), false}, {test("a", 8, num("", 1)), false}, {test("a", -1, num("", 1)), false}, {test("", 1, num("", 1)), false}, {test("not", 1, num("", 1)), false}, {test("a", 1, api.Prop{}), false}, {test("a", 1, flag("", 2)), false}, {test("a", 1, num("A", 1)), false}, {test("type", 1, num("", 1)), true}} {
		if ValidTest(c.x) != c.want {
			t.Error(i)
		}
		l := []api.Test{c.x}
		if _, e := New().Join(true, l, quality(1, 1, 1)); (e == api.OK) != c.want {
			t.Error("join", i, e)
		}
	}
}

func TestPasses(t *testing.T) {
	h := happening("news", 7, 0, num("cost", 3), flag("free", 1), word("name", "paper"), word("type", "own"))
	for i, c := range []struct {
		x    api.Test
		want string // for each operation
	}{{test("cost", 0, num("", 3)), "100101"}, {test("cost", 0, num("", 4)), "011100"}, {test("cost", 0, num("", 2)), "010011"}, {test("cost", 0, flag("", 1)), "000000"}, {test("free", 0, flag("", 1)), "100101"}, {test("free", 0, flag("", 0)), "010011"}, {test("free", 0, num("", 1)), "000000"}, {test("name", 0, word("", "pap")), "0100111"}, {test("name", 0, word("", "q")), "0111000"}, {test("name", 0, word("", "")), "0100111"}, {test("nothing", 0, num("", 1)), "000000"}, {test("type", 0, word("", "news")), "1001011"}, {test("type", 0, word("", "own")), "0111000"}, {test("type", 0, num("", 1)), "000000"}, {test("priority", 0, num("", 7)), "100101"}, {test("priority", 0, word("", "7")), "0000000"}} {
		s := ""
		for op := 1; op <= len(c.want); op++ {
			c.x.Op = op
			if Passes([]api.Test{c.x}, h) {
				s += "1"
			} else {
				s += "0"
			}
		}
		if s != c.want {
			t.Errorf("%d: %s instead of %s", i, s, c.want)
		}
	}
	yes, no := test("cost", 1, num("", 3)), test("cost", 1, num("", 4))
	if !Passes([]api.Test{yes, yes}, h) || Passes([]api.Test{yes, no}, h) || Passes([]api.Test{no, yes}, h) || !Passes(nil, h) {
		t.Error("all tests are to be passed")
	}
	if !Passes(slices.Repeat([]api.Test{yes}, 10), h) || Passes(slices.Repeat([]api.Test{yes}, 11), h) || Passes([]api.Test{yes, {}}, h) {
		t.Error("filters that are none")
	}
}

func TestBefore(t *testing.T) {
	for i, c := range []struct {
		order int
		a, b  api.Happening
		want  bool
	}{{1, happening("", 0, 9), happening("", 9, 1), true}, {2, happening("", 1, 0), happening("", 1, 0), true}, {2, happening("", 0, 0), happening("", 1, 0), false}, {2, happening("", 2, 0), happening("", 1, 0), true}, {3, happening("", 0, 0), happening("", 0, 0), true}, {3, happening("", 0, 0), happening("", 0, 9), false}, {3, happening("", 0, 9), happening("", 0, 0), true}, {3, happening("", 0, 5), happening("", 0, 5), true}, {3, happening("", 0, 6), happening("", 0, 5), false}, {0, happening("", 0, 0), happening("", 0, 0), false}, {4, happening("", 0, 0), happening("", 0, 0), false}, {1, happening("", 101, 0), happening("", 0, 0), false}, {1, happening("", 0, 0), happening("", 101, 0), false}} {
		if Before(c.order, c.a, c.b) != c.want {
			t.Error(i)
		}
	}
}

func TestConsumers(t *testing.T) {
	c := New()
	steps(t, []step{
		{text(c.Join(false, nil, quality(1, 3, 1))), "1"}, {text(c.Join(true, nil, quality(1, 3, 1))), "2"}, {text(c.Join(false, nil, quality(1, 3, 1))), "3"},
		{text(c.Leave(2)), "0"}, {text(c.Leave(2)), "!8"}, {supplied(c, happening("a", 0, 0)), "2"}, {text(c.Leave(3)), "1"}, {text(c.Join(false, nil, quality(1, 3, 1))), "4"}, {fmt.Sprint(c.Consumers()), "[1 4]"}, {queueOf(c, 1), "a"}, {queueOf(c, 4), ""},
		{text(c.Set(1, quality(0, 1, 1))), "!1"}, {text(c.Set(1, quality(4, 1, 1))), "!1"}, {text(c.Set(1, quality(1, 0, 1))), "!1"}, {text(c.Set(1, quality(1, 1001, 1))), "!1"}, {text(c.Set(1, quality(1, 1000, 0))), "!1"}, {text(c.Set(1, quality(1, 1000, 5))), "!1"}, {text(c.Set(-1, quality(1, 1000, 5))), "!1"}, {text(c.Set(-1, quality(1, 1000, 4))), "!7"}, {text(c.Set(9, quality(1, 1000, 4))), "!8"}, {text(c.Set(0, quality(1, 1000, 4))), "!8"}, {text(c.Set(1, quality(1, 1000, 4))), "0"},
		{text(0, c.Filter(1, []api.Test{{}})), "!1"}, {text(0, c.Filter(-1, nil)), "!7"}, {text(0, c.Filter(2, nil)), "!8"}, {text(0, c.Filter(1, []api.Test{test("type", 2, word("", "b"))})), "0"},
		{supplied(c, happening("b", 0, 0), happening("c", 0, 0)), "12"}, {queueOf(c, 1), "ac"}, {queueOf(c, 4), "bc"},
		{text(0, c.Pause(-1, true)), "!7"}, {text(0, c.Pause(5, true)), "!8"}, {text(0, c.Pause(4, true)), "0"}, {pull(c, 4), "!9"}, {supplied(c, happening("d", 0, 0)), "2"}, {text(0, c.Pause(4, false)), "0"}, {pull(c, 4), "b"}, {queueOf(c, 4), "cd"},
		{queueOf(c, -1), "!7"}, {queueOf(c, 7), "!8"}, {counted(c, -1), "0 0 0 0 7"}, {counted(c, 7), "0 0 0 0 8"}, {counted(c, 4), "3 1 0 0 0"}, {text(c.Leave(-1)), "!7"},
	})
	for range 98 {
		c.Join(true, nil, quality(1, 1, 1))
	}
	steps(t, []step{{text(c.Join(true, nil, quality(1, 1, 1))), "!4"}, {text(c.Join(true, nil, quality(1, 0, 1))), "!1"}, {text(c.Leave(4)), "2"}, {text(c.Join(true, nil, quality(1, 1, 1))), "103"}})
}

func TestRoom(t *testing.T) {
	for i, c := range []struct {
		order, discard int
		want           string // the events a to e, of the priorities 5 1 1 9 0, where there is room for three
		count          string
	}{{1, 1, "cde", "5 0 2 0 0"}, {1, 2, "abc", "5 0 2 0 0"}, {1, 3, "acd", "5 0 2 0 0"}, {2, 1, "dce", "5 0 2 0 0"}, {2, 3, "dac", "5 0 2 0 0"}, {1, 4, "abc", "3 0 0 0 0"}} {
		x := New()
		x.Join(false, nil, quality(c.order, 3, c.discard))
		want := "11111"
		if c.discard == 4 {
			want = "111!9!9"
		}
		steps(t, []step{{supplied(x, happening("a", 5, 0), happening("b", 1, 0), happening("c", 1, 0), happening("d", 9, 0), happening("e", 0, 0)), want}, {queueOf(x, 1), c.want}, {counted(x, 1), c.count}})
		if t.Failed() {
			t.Fatal(i)
		}
	}
	for discard, want := range map[int]string{1: "cde", 2: "abc", 3: "acd", 4: "abc"} {
		x := New()
		x.Join(false, nil, quality(1, 9, 1))
		supplied(x, happening("a", 5, 0), happening("b", 1, 0), happening("c", 1, 0), happening("d", 9, 0), happening("e", 0, 0))
		steps(t, []step{{text(x.Set(1, quality(1, 3, discard))), "2"}, {queueOf(x, 1), want}, {counted(x, 1), "5 0 2 0 0"}})
	}
	x := New()
	x.Join(false, nil, quality(1, 9, 1))
	supplied(x, happening("a", 1, 0), happening("b", 3, 7), happening("c", 3, 5))
	steps(t, []step{{text(x.Set(1, quality(2, 9, 1))), "0"}, {queueOf(x, 1), "bca"}, {text(x.Set(1, quality(3, 9, 1))), "0"}, {queueOf(x, 1), "cba"}, {text(x.Set(1, quality(1, 9, 1))), "0"}, {queueOf(x, 1), "abc"}})
}

func TestRefused(t *testing.T) {
	c := New()
	c.Join(false, nil, quality(1, 3, 1))
	c.Join(false, []api.Test{test("type", 1, word("", "a"))}, quality(1, 1, 4))
	steps(t, []step{{supplied(c, happening("a", 0, 0)), "2"}, {supplied(c, happening("a", 0, 0)), "!9"}, {supplied(c, happening("b", 0, 0)), "1"}, {queueOf(c, 1), "ab"}, {counted(c, 1), "2 0 0 0 0"}, {counted(c, 2), "1 0 0 0 0"}, {pull(c, 2), "a"}, {supplied(c, happening("a", 0, 0)), "2"}})
}

func TestStale(t *testing.T) {
	c := New()
	c.Join(false, nil, quality(3, 9, 1))
	c.Join(true, nil, quality(1, 9, 1))
	steps(t, []step{
		{supplied(c, happening("a", 0, 0), happening("b", 0, 5), happening("c", 0, 3), happening("d", 0, 5)), "2222"}, {queueOf(c, 1), "cbda"},
		{text(c.Clock(2)), "0"}, {text(c.Clock(3)), "2"}, {queueOf(c, 1), "bda"}, {queueOf(c, 2), "abd"}, {supplied(c, happening("x", 0, 3)), "!16"}, {supplied(c, happening("x", 0, 4)), "2"},
		{text(c.Clock(2)), "!7"}, {text(c.Clock(-1)), "!7"}, {text(c.Clock(api.MaxTime + 1)), "!7"}, {text(c.Now(), 0), "3"}, {pull(c, 1), "x"}, {text(c.Clock(3)), "0"}, {text(c.Clock(9)), "5"}, {counted(c, 1), "5 1 0 3 0"}, {counted(c, 2), "5 0 0 4 0"}, {queueOf(c, 1), "a"}, {text(c.Clock(api.MaxTime)), "0"}, {supplied(c, happening("x", 0, api.MaxTime)), "!16"}, {pull(c, 1), "a"}, {pull(c, 1), "!8"},
	})
}

func TestPush(t *testing.T) {
	c := New()
	c.Join(true, nil, quality(1, 9, 1))
	c.Join(false, nil, quality(1, 9, 1))
	c.Join(true, nil, quality(2, 9, 1))
	c.Join(true, nil, api.Quality{Order: 1, Most: 9, Discard: 1, Paused: true})
	c.Join(true, []api.Test{test("type", 5, word("", "b"))}, quality(1, 9, 1))
	steps(t, []step{
		{supplied(c, happening("a", 1, 0), happening("b", 2, 0), happening("c", 3, 0)), "445"},
		{pushed(c, -1), "!7"}, {pushed(c, 10001), "!7"}, {pushed(c, 0), ""}, {pushed(c, 4), "1a3c5c1b"}, {pushed(c, 10000), "1c3b3a"}, {pushed(c, 1), ""}, {queueOf(c, 2), "abc"}, {queueOf(c, 4), "abc"}, {counted(c, 3), "3 3 0 0 0"},
		{text(0, c.Pause(4, false)), "0"}, {pushed(c, 2), "4a4b"}, {pull(c, 1), "!10"}, {pull(c, 4), "!10"}, {pull(c, -1), "!7"}, {pull(c, 6), "!8"}, {pull(c, 2), "a"},
	})
}

func TestChain(t *testing.T) {
	a, b := New(), New()
	l := []*Channel{a, b}
	a.Join(false, nil, quality(2, 9, 1))
	a.Join(true, nil, quality(1, 9, 1))
	b.Join(false, nil, quality(1, 2, 4))
	b.Join(false, nil, quality(1, 9, 1))
	supplied(a, happening("a", 1, 0), happening("b", 2, 4), happening("c", 3, 0))
	steps(t, []step{
		{text(Chain([]*Channel{a, nil}, 0, 1, 0)), "!1"}, {text(Chain(l, -1, 1, 0)), "!7"}, {text(Chain(l, 2, 1, 0)), "!7"}, {text(Chain(l, 0, 1, 2)), "!7"}, {text(Chain(l, 0, 1, -1)), "!7"}, {text(Chain(l, 0, -1, 1)), "!7"}, {text(Chain(l, 0, 3, 1)), "!8"}, {text(Chain(l, 0, 2, 1)), "!10"}, {text(Chain(nil, 0, 1, 0)), "!7"},
		{text(0, a.Pause(1, true)), "0"}, {text(Chain(l, 0, 1, 1)), "!9"}, {text(0, a.Pause(1, false)), "0"},
		{text(Chain(l, 0, 1, 1)), "2"}, {queueOf(b, 1), "cb"}, {queueOf(b, 2), "cb"}, {queueOf(a, 1), ""}, {counted(a, 1), "3 3 0 0 0"}, {text(Chain(l, 0, 1, 1)), "0"},
		{pull(b, 1), "c"}, {pull(b, 1), "b"}, {text(b.Clock(4)), "1"}, {supplied(a, happening("d", 0, 4), happening("e", 0, 0)), "22"}, {text(Chain(l, 0, 1, 1)), "0"}, {queueOf(a, 1), "e"},
		{text(Chain(l, 0, 1, 0)), "1"}, {queueOf(a, 1), "e"}, {queueOf(a, 2), "abcdee"},
	})
}

func TestNil(t *testing.T) {
	var c *Channel
	steps(t, []step{
		{text(c.Join(true, nil, quality(1, 1, 1))), "!1"}, {text(c.Leave(1)), "!1"}, {text(c.Set(1, quality(1, 1, 1))), "!1"}, {text(0, c.Filter(1, nil)), "!1"}, {text(0, c.Pause(1, true)), "!1"}, {supplied(c, happening("a", 0, 0)), "!1"}, {pushed(c, 1), "!1"}, {pull(c, 1), "!1"}, {text(c.Clock(1)), "!1"}, {text(c.Now(), 0), "0"}, {queueOf(c, 1), "!1"}, {fmt.Sprint(c.Consumers()), "[]"}, {counted(c, 1), "0 0 0 0 1"}, {c.Text(), ""},
	})
	zero := &Channel{}
	steps(t, []step{{text(zero.Join(false, nil, quality(1, 1, 1))), "1"}, {supplied(zero, happening("a", 0, 0)), "1"}, {pull(zero, 1), "a"}, {zero.Text(), "channel 0 1\nconsumer 1 false 1 1 1 false\ncounts 1 1 0 0\n"}})
}

// entryOf is an event of the model.
type modelled struct {
	q     api.Quality
	all   []api.Happening // in the order in which they came
	count [4]int
}

// best returns the index of the event that is given first.
func (m *modelled) best() int {
	best := 0
	for i := range m.all {
		if !Before(m.q.Order, m.all[best], m.all[i]) {
			best = i
		}
	}
	return best
}

func (m *modelled) drop() {
	goes := 0
	switch m.q.Discard {
	case 2, 4:
		goes = len(m.all) - 1
	case 3:
		for i, h := range m.all {
			if h.Priority < m.all[goes].Priority {
				goes = i
			}
		}
	}
	m.all = slices.Delete(m.all, goes, goes+1)
	m.count[2]++
}

func (m *modelled) sorted() string {
	x := modelled{q: m.q, all: slices.Clone(m.all)}
	s := ""
	for len(x.all) > 0 {
		i := x.best()
		s += x.all[i].Type
		x.all = slices.Delete(x.all, i, i+1)
	}
	return s
}

// TestModel compares queues with lists that are searched from end to end.
func TestModel(t *testing.T) {
	r := sample.New(25)
	for range 300 {
		c := New()
		var l []*modelled
		any := func() api.Quality { return quality(1+r.Int(3), 1+r.Int(5), 1+r.Int(4)) }
		for i := range 3 {
			l = append(l, &modelled{q: any()})
			c.Join(i == 2, nil, l[i].q)
		}
		for n := range 60 {
			act(t, c, l, r, n, any)
			for i, m := range l {
				if got := queueOf(c, i+1); got != m.sorted() {
					t.Fatalf("queue %q instead of %q", got, m.sorted())
				}
				want := fmt.Sprint(m.count[0], m.count[1], m.count[2], m.count[3], 0)
				if got := counted(c, i+1); got != want || len(m.all) > m.q.Most {
					t.Fatalf("counts %s instead of %s", got, want)
				}
				if m.count[0] != m.count[1]+m.count[2]+m.count[3]+len(m.all) {
					t.Fatal("counts do not add up")
				}
			}
		}
	}
}

func act(t *testing.T, c *Channel, l []*modelled, r *sample.Source, n int, any func() api.Quality) {
	switch r.Int(8) {
	case 0, 1, 2, 3:
		h := happening(string(rune('a'+n)), r.Int(4), max(0, c.Now()+r.Int(12)-4))
		stale := h.Until > 0 && h.Until <= c.Now()
		full := slices.ContainsFunc(l, func(m *modelled) bool { return m.q.Discard == 4 && len(m.all) == m.q.Most })
		_, e := c.Supply(h)
		switch {
		case stale != (e == api.ErrLate) || !stale && full != (e == api.ErrState):
			t.Fatal(stale, full, e)
		case e == api.OK:
			for _, m := range l {
				m.all = append(m.all, h)
				m.count[0]++
				if len(m.all) > m.q.Most {
					m.drop()
				}
			}
		}
	case 4:
		c.Clock(c.Now() + r.Int(3))
		for _, m := range l {
			before := len(m.all)
			m.all = slices.DeleteFunc(m.all, func(h api.Happening) bool { return h.Until > 0 && h.Until <= c.Now() })
			m.count[3] += before - len(m.all)
		}
	case 5:
		i := r.Int(3)
		l[i].q = any()
		c.Set(i+1, l[i].q)
		for len(l[i].all) > l[i].q.Most {
			l[i].drop()
		}
	default:
		give(t, c, l, r.Int(3))
	}
}

func give(t *testing.T, c *Channel, l []*modelled, i int) {
	m := l[i]
	var got []api.Given
	if i == 2 {
		got, _ = c.Push(1)
	} else if h, e := c.Pull(i + 1); e == api.OK {
		got = []api.Given{{Consumer: i + 1, Happening: h}}
	}
	if len(m.all) == 0 {
		if len(got) != 0 {
			t.Fatal("given out of nothing")
		}
		return
	}
	best := m.best()
	if len(got) != 1 || got[0].Consumer != i+1 || !reflect.DeepEqual(got[0].Happening, m.all[best]) {
		t.Fatal(got)
	}
	m.all = slices.Delete(m.all, best, best+1)
	m.count[1]++
}

func TestApart(t *testing.T) {
	c := New()
	f := []api.Test{test("cost", 1, num("", 1))}
	c.Join(false, f, quality(1, 9, 1))
	c.Join(false, nil, quality(1, 9, 1))
	h := happening("a", 0, 0, num("cost", 1))
	c.Supply(h)
	was := c.Text()
	f[0].Field, h.Fields[0].N = "x", 5
	l, _ := c.Queue(1)
	l[0].Fields[0].N = 7
	c.Consumers()[0] = 9
	if c.Text() != was {
		t.Error("memory is shared")
	}
	got, _ := c.Pull(1)
	got.Fields[0].N = 8
	if l, _ := c.Queue(2); l[0].Fields[0].N != 1 {
		t.Error("queues share memory")
	}
}

func TestText(t *testing.T) {
	c := New()
	c.Join(true, []api.Test{test("cost", 1, num("", 1))}, api.Quality{Order: 2, Most: 9, Discard: 1, Paused: true})
	c.Supply(happening("a", 0, 9, num("cost", 1), word("name", "x\ny")))
	c.Clock(3)
	want := "channel 3 1\nconsumer 1 true 2 9 1 true\ncounts 1 0 0 0\ntest \"cost\" 1 \"\" 1 1 \"\"\nevent \"a\" 0 9\nfield \"cost\" 1 1 \"\"\nfield \"name\" 2 0 \"x\\ny\"\n"
	if got := c.Text(); got != want {
		t.Error(got)
	}
}
