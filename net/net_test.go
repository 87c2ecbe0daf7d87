package net

import (
	"fmt"
	"reflect"
	"strings"
	"testing"

	"intermede/api"
	"intermede/sample"
)

func made(t *testing.T, hosts int, numbers ...int) *Net {
	t.Helper()
	n, e := New(hosts, numbers)
	if e != api.OK {
		t.Fatal(e)
	}
	return n
}

func show(l []api.Packet, e api.Errno) string {
	s := ""
	for _, p := range l {
		s += fmt.Sprintf("%d:%d>%d@%d%s ", p.ID, p.From, p.To, p.Time, p.Body)
	}
	if e != api.OK {
		s += fmt.Sprint("!", int(e))
	}
	return strings.TrimSpace(s)
}

func TestExample(t *testing.T) {
	n := made(t, 2, 10, 60)
	if e := n.Set(0, 1, api.Link{Delay: 1, Loss: 50}); e != api.OK {
		t.Fatal(e)
	}
	a, _ := n.Send(0, 1, "a")
	b, e := n.Send(0, 1, "b")
	if a != 1 || b != 2 || e != api.OK || n.Under() != 1 || n.Used() != 2 {
		t.Error(a, b, e)
	}
	if s := show(n.Step()); s != "2:0>1@1b" || n.Now() != 1 {
		t.Error(s)
	}
	if s := show(n.Step()); s != "!8" {
		t.Error(s)
	}
	sent, arrived, lost, doubled := n.Counts()
	if sent != 2 || arrived != 1 || lost != 1 || doubled != 0 {
		t.Error(sent, arrived, lost, doubled)
	}
}

func TestTimes(t *testing.T) {
	n := made(t, 3, 120099, 30099, 9999, 0)
	n.Set(0, 1, api.Link{Delay: 5, Jitter: 9, Double: 50})
	n.Send(0, 1, "a") // 12 % 10 is 2; 120099 / 100 % 100 is 0: doubled
	n.Send(0, 1, "b") // 3; 30099 / 100 % 100 is 0: doubled
	n.Send(0, 1, "c") // 0; 99 is not below 50
	n.Send(2, 1, "d")
	n.Send(1, 1, "e")
	n.Send(0, 1, "f") // no number is left: 0, doubled
	if n.Used() != 4 {
		t.Error(n.Used())
	}
	if next, e := n.Next(); next != 0 || e != api.OK {
		t.Error(next, e)
	}
	if s := show(n.Pass(0)); s != "5:1>1@0e" {
		t.Error(s)
	}
	if s := show(n.Pass(0)); s != "" {
		t.Error(s)
	}
	n.Send(2, 2, "g")
	if s := show(n.Pass(0)); s != "7:2>2@0g" {
		t.Error(s)
	}
	if s := show(n.Pass(7)); s != "4:2>1@1d 3:0>1@5c 6:0>1@5f 1:0>1@7a" {
		t.Error(s)
	}
	if s := show(n.Pass(100)); s != "2:0>1@8b 6:0>1@11f 1:0>1@13a 2:0>1@14b" {
		t.Error(s)
	}
	if sent, arrived, lost, doubled := n.Counts(); sent != 7 || arrived != 10 || lost != 0 || doubled != 3 {
		t.Error(sent, arrived, lost, doubled)
	}
}

func TestParts(t *testing.T) {
	n := made(t, 3, 1, 2, 3)
	if n.Part([]int{0, 1, 1}) != api.OK {
		t.Fatal("Part")
	}
	n.Send(0, 1, "lost")
	n.Send(1, 2, "there")
	n.Send(0, 0, "own")
	if n.Under() != 2 || n.Used() != 2 {
		t.Error(n.Under(), n.Used())
	}
	if ok, e := n.Reach(0, 1); ok || e != api.OK {
		t.Error(e)
	}
	n.Part([]int{0, 1, 0})
	if s := show(n.Pass(1)); s != "3:0>0@0own" {
		t.Error(s)
	}
	n.Heal()
	if ok, _ := n.Reach(0, 1); !ok {
		t.Error("healed")
	}
	n.Send(0, 1, "a")
	n.Send(1, 0, "b")
	if n.Down(1) != api.OK || n.Down(1) != api.ErrState || n.IsUp(1) || n.Up(0) != api.ErrState {
		t.Error("Down")
	}
	if _, e := n.Send(1, 0, "x"); e != api.ErrState {
		t.Error(e)
	}
	if ok, _ := n.Reach(1, 1); ok {
		t.Error("down")
	}
	if ok, _ := n.Reach(0, 1); ok {
		t.Error("down")
	}
	if s := show(n.Pass(5)); s != "5:1>0@2b" {
		t.Error(s)
	}
	if n.Up(1) != api.OK || !n.IsUp(1) || n.IsUp(3) || n.IsUp(-1) {
		t.Error("Up")
	}
	if sent, arrived, lost, _ := n.Counts(); sent != 5 || arrived != 2 || lost != 3 {
		t.Error(sent, arrived, lost)
	}
}

func TestErrors(t *testing.T) {
	for i, c := range []struct {
		hosts   int
		numbers []int
		want    api.Errno
	}{{0, nil, api.ErrRange}, {17, nil, api.ErrRange}, {16, nil, 0}, {1, []int{-1}, api.ErrRange}, {1, make([]int, 10000), 0}, {1, make([]int, 10001), api.ErrLimit}, {0, make([]int, 10001), api.ErrRange}} {
		if n, e := New(c.hosts, c.numbers); e != c.want || (n == nil) != (e != api.OK) {
			t.Error(i, e)
		}
	}
	for i, c := range []struct {
		l    api.Link
		want bool
	}{{api.Link{}, true}, {api.Link{Delay: 1000, Jitter: 1000, Loss: 100, Double: 100}, true}, {api.Link{Delay: 1001}, false}, {api.Link{Jitter: 1001}, false}, {api.Link{Loss: 101}, false}, {api.Link{Double: 101}, false}, {api.Link{Delay: -1}, false}, {api.Link{Jitter: -1}, false}, {api.Link{Loss: -1}, false}, {api.Link{Double: -1}, false}} {
		if ValidLink(c.l) != c.want {
			t.Error(i)
		}
	}
	n := made(t, 2)
	long := strings.Repeat("x", api.MaxText+1)
	for i, c := range [][2]api.Errno{
		{n.Set(0, 2, api.Link{Delay: -1}), api.ErrInvalid}, {n.Set(0, 2, api.Link{}), api.ErrRange}, {n.Set(-1, 0, api.Link{}), api.ErrRange}, {n.Set(1, 1, api.Link{}), api.ErrKind}, {errno(n.Link(1, 1)), api.ErrKind}, {errno(n.Link(1, 2)), api.ErrRange}, {errno(n.Send(0, 2, long)), api.ErrRange}, {errno(n.Send(0, 1, long)), api.ErrLong}, {errno(n.Next()), api.ErrNone}, {errno(n.Pass(-1)), api.ErrRange}, {errno(n.Pass(api.MaxTime + 1)), api.ErrRange}, {n.Part([]int{-1}), api.ErrRange}, {n.Part([]int{1}), api.ErrSize}, {n.Down(2), api.ErrRange}, {n.Up(-1), api.ErrRange}, {errno(n.Reach(0, 2)), api.ErrRange},
	} {
		if c[0] != c[1] {
			t.Error(i, c)
		}
	}
	if l, e := n.Link(0, 1); l != (api.Link{Delay: 1}) || e != api.OK {
		t.Error(l, e)
	}
	n.Pass(5)
	if _, e := n.Pass(4); e != api.ErrRange {
		t.Error(e)
	}
	for range 10000 {
		if _, e := n.Send(0, 1, ""); e != api.OK {
			t.Fatal(e)
		}
	}
	if _, e := n.Send(0, 1, ""); e != api.ErrLimit || n.Under() != 10000 {
		t.Error(e)
	}
	late := made(t, 2)
	late.Pass(api.MaxTime)
	late.Send(0, 1, "")
	if next, e := late.Next(); next != api.MaxTime+1 || e != api.OK {
		t.Error(next, e)
	}
	if _, e := late.Step(); e != api.ErrRange || late.Now() != api.MaxTime || late.Under() != 1 {
		t.Error(e)
	}
}

func errno[T any](_ T, e api.Errno) api.Errno { return e }

func TestNil(t *testing.T) {
	var n *Net
	for i, e := range []api.Errno{n.Set(0, 0, api.Link{}), errno(n.Link(0, 0)), errno(n.Send(0, 0, "")), errno(n.Next()), errno(n.Pass(0)), errno(n.Step()), n.Part(nil), n.Heal(), n.Down(0), n.Up(0), errno(n.Reach(0, 0))} {
		if e != api.ErrInvalid {
			t.Error(i, e)
		}
	}
	if sent, _, _, _ := n.Counts(); sent != 0 || n.Now() != 0 || n.IsUp(0) || n.Under() != 0 || n.Used() != 0 || n.Text() != "" {
		t.Error("nil")
	}
}

func TestRandom(t *testing.T) {
	s := sample.New(91)
	for range 200 {
		numbers := make([]int, s.Int(30))
		for i := range numbers {
			numbers[i] = s.Int(1000000)
		}
		a, b := made(t, 4, numbers...), made(t, 4, numbers...)
		bodies, times := map[int]string{}, map[int]int{}
		last, twice := 0, 0
		for range 60 {
			from, to, act := s.Int(4), s.Int(4), s.Int(9)
			l := api.Link{Delay: s.Int(5), Jitter: s.Int(5), Loss: s.Int(60), Double: s.Int(60)}
			sides := []int{s.Int(2), 0, 0, s.Int(2)}
			body := s.Text("ab", 3)
			for _, n := range []*Net{a, b} {
				switch act {
				case 0:
					n.Set(from, to, l)
				case 1:
					n.Part(sides)
				case 2:
					n.Heal()
				case 3:
					n.Down(from)
				case 4:
					n.Up(from)
				default:
					if id, e := n.Send(from, to, body); e == api.OK {
						bodies[id] = body
					}
				}
			}
			if s.Int(4) == 0 {
				to := a.Now() + s.Int(6)
				at, _ := a.Pass(to)
				var steps []api.Packet
				for time := b.Now(); time <= to; time++ {
					l, _ := b.Pass(time)
					steps = append(steps, l...)
				}
				if !reflect.DeepEqual(at, steps) || a.Text() != b.Text() {
					t.Fatal(show(at, 0), "and", show(steps, 0))
				}
				for _, p := range at {
					times[p.ID]++
					if bodies[p.ID] != p.Body || times[p.ID] > 2 || p.Time < last {
						t.Fatal(p)
					}
					last = p.Time
					if times[p.ID] == 2 {
						twice++
					}
				}
			}
			sent, arrived, lost, doubled := a.Counts()
			if sent+doubled != arrived+lost+a.Under() || twice > doubled {
				t.Fatal("counts")
			}
		}
	}
}
