package post

import (
	"fmt"
	"strconv"
	"strings"
	"testing"

	"intermede/api"
	"intermede/sample"
)

func made(t *testing.T, order, room, pause int) *Post {
	t.Helper()
	p, e := New(order, room, pause)
	if e != api.OK {
		t.Fatal(e)
	}
	return p
}

func letter1(body string) api.Letter { return api.Letter{Tries: 1, Body: body} }

func text[T any](x T, e api.Errno) string {
	if e != api.OK {
		return fmt.Sprint("!", int(e))
	}
	return fmt.Sprint(x)
}

func next(p *Post, now int) string {
	n, l, e := p.Next(now)
	if e != api.OK {
		return fmt.Sprint("!", int(e))
	}
	return strconv.Itoa(n) + l.Body
}

type step struct{ got, want string }

func steps(t *testing.T, l []step) {
	t.Helper()
	for i, s := range l {
		if s.got != s.want {
			t.Errorf("%d: %q instead of %q", i, s.got, s.want)
		}
	}
}

func TestOrders(t *testing.T) {
	for order, want := range map[int]string{1: "1 2 3 4 5", 2: "1 2 3 4 5", 3: "2 3 5 1 4", 4: "4 2 5 1 3"} {
		p := made(t, order, 9, 0)
		for _, l := range []api.Letter{{Priority: 1}, {Priority: 5, Until: 20}, {Priority: 5}, {Until: 10}, {Priority: 3, Until: 20}} {
			l.Tries = 1
			p.Put(l, 0)
		}
		var got []string
		for range 5 {
			got = append(got, next(p, 0))
		}
		if s := strings.Join(got, " "); s != want {
			t.Error(order, s)
		}
	}
}

func TestLetters(t *testing.T) {
	p := made(t, 1, 2, 5)
	two := api.Letter{Tries: 2, Until: 30, Body: "b", Target: "x"}
	steps(t, []step{
		{text(p.Put(letter1("a"), 0)), "1"}, {text(p.Put(two, 0)), "2"}, {text(p.Put(two, 0)), "!4"}, {text(p.Put(api.Letter{Tries: 1, Until: 3}, 4)), "!16"}, {text(p.State(1, 4)), "1"}, {text(p.State(9, 4)), "!8"}, {next(p, 4), "1a"}, {text(p.State(1, 4)), "2"}, {text(0, p.Done(2, 4, true, "")), "!9"}, {text(0, p.Done(9, 4, true, "")), "!8"}, {text(p.Poll(1, 4)), "!9"}, {text(0, p.Done(1, 5, true, "reply")), "0"}, {text(p.State(1, 5)), "3"}, {text(p.Poll(1, 5)), "reply"}, {text(p.Poll(1, 5)), "!8"}, {text(p.State(1, 5)), "3"}, {text(p.Poll(7, 5)), "!8"},
		{next(p, 6), "2b"}, {next(p, 6), "!8"}, {text(0, p.Done(2, 7, false, "ignored")), "0"}, {text(p.When(7)), "12"}, {next(p, 11), "!8"}, {fmt.Sprint(p.Waiting()), "[2]"}, {next(p, 12), "2b"}, {text(0, p.Done(2, 13, false, "")), "0"}, {text(p.State(2, 13)), "4"}, {text(p.Poll(2, 13)), "!4"}, {text(p.When(13)), "!8"}, {text(0, p.Withdraw(2, 13)), "!9"}, {text(0, p.Withdraw(8, 13)), "!8"},
		{text(p.Put(letter1("c"), 13)), "3"}, {text(0, p.Withdraw(3, 13)), "0"}, {text(p.State(3, 13)), "!8"}, {text(p.State(1, 12)), "!7"}, {text(p.State(1, -1)), "!7"}, {text(p.State(1, api.MaxTime+1)), "!7"}, {next(p, 12), "!7"}, {text(p.Put(letter1(""), 12)), "!7"},
	})
	put, answered, given, late, withdrawn := p.Count()
	if put != 3 || answered != 1 || given != 1 || late != 0 || withdrawn != 1 {
		t.Error(put, answered, given, late, withdrawn)
	}
}

func TestLate(t *testing.T) {
	p := made(t, 1, 9, 10)
	for range 3 {
		p.Put(api.Letter{Tries: 3, Until: 8}, 0)
	}
	steps(t, []step{{next(p, 8), "1"}, {fmt.Sprint(p.Waiting()), "[2 3]"}, {text(p.When(8)), "8"}, {text(p.State(1, 9)), "2"}, {text(p.State(2, 9)), "5"}, {fmt.Sprint(p.Waiting()), "[]"}, {text(p.Poll(3, 9)), "!16"}, {text(0, p.Done(1, 20, true, "r")), "0"}, {text(p.Poll(1, 20)), "r"}})
	p.Put(api.Letter{Tries: 3, Until: 40}, 20)
	steps(t, []step{{next(p, 31), "4"}, {text(0, p.Done(4, 35, false, "")), "0"}, {text(p.State(4, 35)), "1"}, {text(p.When(35)), "!8"}, {text(p.State(4, 41)), "5"}})
	p.Put(api.Letter{Tries: 3, Until: 50}, 41)
	steps(t, []step{{next(p, 50), "5"}, {text(0, p.Done(5, 51, false, "")), "0"}, {text(p.State(5, 51)), "5"}})
	p.Put(api.Letter{Tries: 1, Until: 60}, 51)
	steps(t, []step{{next(p, 60), "6"}, {text(0, p.Done(6, 61, false, "")), "0"}, {text(p.State(6, 61)), "5"}, {text(p.Poll(6, 61)), "!16"}})
	p.Put(api.Letter{Tries: 1, Until: 70, Back: true}, 61)
	steps(t, []step{{next(p, 70), "7"}, {text(0, p.Done(7, 70, false, "")), "0"}, {text(p.State(7, 70)), "4"}, {text(p.Poll(7, 71)), "!10"}, {text(p.Backs(71)), "[{7 4 }]"}})
	p.Put(api.Letter{Tries: 1, Until: 71, Back: true}, 71)
	steps(t, []step{{next(p, 71), "8"}, {text(0, p.Done(8, 72, false, "")), "0"}, {text(p.Backs(72)), "[{8 5 }]"}})
	if put, answered, given, late, withdrawn := p.Count(); put != 8 || answered != 1 || given != 1 || late != 6 || withdrawn != 0 {
		t.Error(put, answered, given, late, withdrawn)
	}
	end := made(t, 1, 9, 10)
	end.Put(api.Letter{Tries: 3}, 0)
	end.Next(api.MaxTime - 5)
	end.Done(1, api.MaxTime-5, false, "")
	if s := text(end.When(api.MaxTime)); s != "!8" {
		t.Error(s)
	}
}

func TestBacks(t *testing.T) {
	p := made(t, 1, 9, 0)
	for i := range 5 {
		p.Put(api.Letter{Tries: 1, Back: i != 2, Until: 5}, 0)
	}
	for range 4 {
		p.Next(0)
	}
	p.Done(4, 1, true, "four")
	p.Done(1, 1, false, "")
	p.Done(3, 1, true, "three")
	steps(t, []step{{text(p.Poll(4, 1)), "!10"}, {text(p.Poll(2, 1)), "!10"}, {text(p.Backs(1)), "[{1 4 } {4 3 four}]"}, {text(p.Backs(1)), "[]"}, {text(p.Poll(4, 1)), "!8"}, {text(p.Poll(1, 1)), "!8"}, {text(p.State(4, 1)), "3"}, {text(p.Backs(6)), "[{5 5 }]"}, {text(0, p.Done(2, 7, true, "two")), "0"}, {text(p.Backs(7)), "[{2 3 two}]"}, {text(p.Poll(3, 7)), "three"}, {text(p.Backs(6)), "!7"}})
}

func TestHand(t *testing.T) {
	a, b := made(t, 3, 9, 5), made(t, 1, 1, 0)
	hand := func(now int) string {
		x, y, e := Hand(a, b, now)
		return fmt.Sprintf("%d %d %d", x, y, e)
	}
	a.Put(api.Letter{Tries: 3, Priority: 1, Body: "low"}, 0)
	a.Put(api.Letter{Tries: 3, Priority: 9, Body: "high", Back: true}, 0)
	steps(t, []step{{hand(1), "2 1 0"}, {text(a.State(2, 1)), "3"}, {next(b, 1), "1high"}, {hand(2), "0 0 4"}, {text(a.State(1, 2)), "1"}, {text(a.When(2)), "7"}, {hand(3), "0 0 8"}, {hand(7), "0 0 4"}, {text(0, b.Done(1, 7, false, "")), "0"}, {text(b.State(1, 7)), "1"}, {next(b, 7), "1high"}, {text(0, b.Done(1, 7, false, "")), "0"}, {text(b.State(1, 7)), "4"}, {hand(12), "1 2 0"}, {next(b, 12), "2low"}, {text(0, b.Done(2, 12, false, "")), "0"}, {text(b.State(2, 12)), "4"}, {hand(11), "0 0 7"}, {hand(12), "0 0 8"}})
	if l, _ := a.Backs(12); fmt.Sprint(l) != "[{2 3 }]" {
		t.Error(l)
	}
	a.Put(letter1("x"), 12)
	b.Put(letter1("y"), 12)
	steps(t, []step{{hand(12), "0 0 4"}, {text(a.State(3, 12)), "4"}})
	_, _, e1 := Hand(a, a, 12)
	_, _, e2 := Hand(a, a, 1)
	_, _, e3 := Hand(nil, a, 12)
	_, _, e4 := Hand(a, nil, -1)
	if e1 != api.ErrState || e2 != api.ErrRange || e3 != api.ErrInvalid || e4 != api.ErrInvalid {
		t.Error(e1, e2, e3, e4)
	}
}

func TestValid(t *testing.T) {
	long := strings.Repeat("x", 1001)
	p := made(t, 1, 1, 0)
	for i, c := range []struct {
		l    api.Letter
		want bool
	}{{letter1(""), true}, {api.Letter{Tries: 20, Priority: 100, Until: api.MaxTime, Body: long[:1000], Target: long[:1000]}, true}, {api.Letter{}, false}, {api.Letter{Tries: 21}, false}, {api.Letter{Tries: 1, Priority: 101}, false}, {api.Letter{Tries: 1, Priority: -1}, false}, {api.Letter{Tries: 1, Until: -1}, false}, {api.Letter{Tries: 1, Until: api.MaxTime + 1}, false}, {letter1(long), false}, {api.Letter{Tries: 1, Target: long}, false}} {
		if ValidLetter(c.l) != c.want {
			t.Error(i)
		}
		if _, e := p.Put(c.l, -1); !c.want && e != api.ErrInvalid || c.want && e != api.ErrRange {
			t.Error(i, e)
		}
	}
	if p.Done(1, -1, true, long) != api.ErrInvalid || p.Done(1, -1, true, "") != api.ErrRange {
		t.Error("Done")
	}
	for i, c := range [][3]int{{0, 1, 0}, {5, 1, 0}, {1, 0, 0}, {1, 201, 0}, {1, 1, -1}, {1, 1, 10001}} {
		if p, e := New(c[0], c[1], c[2]); e != api.ErrRange || p != nil {
			t.Error(i, e)
		}
	}
	var none *Post
	_, e1 := none.Put(letter1(""), 0)
	_, _, e2 := none.Next(0)
	_, e3 := none.State(1, 0)
	_, e4 := none.Poll(1, 0)
	_, e5 := none.Backs(0)
	_, e6 := none.When(0)
	for i, e := range []api.Errno{e1, e2, e3, e4, e5, e6, none.Done(1, 0, true, ""), none.Withdraw(1, 0), none.Restore("")} {
		if e != api.ErrInvalid {
			t.Error(i, e)
		}
	}
	if put, _, _, _, _ := none.Count(); put != 0 || none.Waiting() != nil || none.Text() != "" {
		t.Error("nil")
	}
}

func TestReturns(t *testing.T) {
	for _, c := range []struct {
		certainty       int
		marks           []int
		at, state, done int
		e               api.Errno
		final           int
	}{
		{2, nil, 0, 0, 0, 0, 1}, {2, []int{1, 2, 3}, 0, 0, 0, 0, 0}, {1, []int{1}, 1, 0, 0, 0, 1}, {1, nil, 0, 0, 0, api.ErrNone, 1}, {1, []int{4}, 1, 2, 1, 0, 1}, {1, []int{5, 1}, 1, 2, 1, 0, 1}, {3, []int{1, 2}, 2, 0, 0, 0, 2}, {3, []int{1}, 0, 0, 0, api.ErrNone, 1}, {3, []int{1, 4, 2}, 2, 2, 2, 0, 2}, {3, []int{1, 5, 2, 3}, 2, 2, 2, 0, 0}, {4, []int{1, 2, 3}, 3, 0, 0, 0, 0}, {4, []int{1, 2, 4, 3}, 3, 2, 2, 0, 0}, {4, []int{1, 2}, 0, 0, 0, api.ErrNone, 2}, {4, []int{5, 4}, 1, 2, 1, 0, 1},
		{0, []int{9}, 0, 0, 0, api.ErrRange, 0}, {0, []int{1, 3}, 0, 0, 0, api.ErrRange, 0}, {5, []int{1, 2}, 0, 0, 0, api.ErrRange, 0}, {-1, []int{1}, 0, 0, 0, api.ErrRange, 0}, {5, nil, 0, 0, 0, api.ErrRange, 0}, {1, []int{0}, 0, 0, 0, api.ErrInvalid, 0}, {1, []int{6}, 0, 0, 0, api.ErrInvalid, 0}, {1, []int{1, 1}, 0, 0, 0, api.ErrInvalid, 0}, {1, []int{2, 1}, 0, 0, 0, api.ErrInvalid, 0}, {1, []int{1, 3, 2}, 0, 0, 0, api.ErrInvalid, 0}, {1, []int{4, 1}, 0, 0, 0, api.ErrInvalid, 0}, {1, []int{1, 4, 5}, 0, 0, 0, api.ErrInvalid, 0},
	} {
		at, state, done, e := Returns(c.certainty, c.marks)
		if at != c.at || state != c.state || done != c.done || e != c.e {
			t.Error(c.certainty, c.marks, at, state, done, e)
		}
		want := c.e
		if want == api.ErrNone {
			want = api.OK
		}
		if c.certainty == 0 {
			want = api.ErrInvalid // its marks can't be either
		}
		final, e := Final(c.certainty, c.marks)
		if final != c.final || e != want {
			t.Error(c.certainty, c.marks, final, e)
		}
		if e == api.OK && want == c.e && c.certainty == 4 && state == api.SResult && final != api.DoneYes || state == api.SSystem && done == api.DoneNo && final != api.DoneNo {
			t.Error("truth", c.marks)
		}
	}
}

func TestRandom(t *testing.T) {
	s := sample.New(141)
	for range 300 {
		p := made(t, 1+s.Int(4), 1+s.Int(6), s.Int(5))
		now := 0
		last, tries, told := map[int]int{}, map[int]int{}, map[int]int{}
		for range 80 {
			now += s.Int(3)
			n := 1 + s.Int(12)
			switch s.Int(8) {
			case 0, 1:
				p.Put(api.Letter{Priority: s.Int(3), Until: s.Int(2) * (now + s.Int(20)), Tries: 1 + s.Int(3), Back: s.Int(2) == 0, Body: s.Text("\x00\xff\n\"a", 4)}, now)
			case 2, 3:
				if n, l, e := p.Next(now); e == api.OK {
					tries[n]++
					if before, there := last[n]; tries[n] > l.Tries || there && now < before+p.pause {
						t.Fatal("tries")
					}
				}
			case 4:
				if p.Done(n, now, s.Int(2) == 0, "r") == api.OK {
					last[n] = now
				}
			case 5:
				p.Withdraw(n, now)
			case 6:
				if _, e := p.Poll(n, now); e == api.OK {
					told[n]++
				}
			case 7:
				l, _ := p.Backs(now)
				for _, r := range l {
					told[r.Number]++
				}
			}
			if told[n] > 1 {
				t.Fatal("told twice")
			}
			put, answered, given, late, withdrawn := p.Count()
			if put != answered+given+late+withdrawn+len(p.active) {
				t.Fatal("counts")
			}
			if when, e := p.When(now); e == api.OK {
				q := made(t, 1, 1, 0)
				if q.Restore(p.Text()) != api.OK || q.Text() != p.Text() {
					t.Fatalf("%q", p.Text())
				}
				if _, _, e := q.Next(when); e != api.OK {
					t.Fatal("when", e)
				}
			}
			if s.Int(5) == 0 {
				q := made(t, 1, 1, 0)
				if e := q.Restore(p.Text()); e != api.OK {
					t.Fatal(e)
				}
				p = q
			}
		}
		damage(t, s, p)
	}
}

func damage(t *testing.T, s *sample.Source, p *Post) {
	good := p.Text()
	b := []byte(good)
	b[s.Int(len(b))] = byte('0' + s.Int(10))
	q := made(t, 1, 1, 0)
	before := q.Text()
	if e := q.Restore(string(b)); e == api.OK && q.Text() != string(b) || e != api.OK && (e != api.ErrSyntax || q.Text() != before) {
		t.Fatalf("%q: %d", b, e)
	}
	for _, bad := range []string{"", "x", good + "\n", good[:len(good)-1]} {
		if e := q.Restore(bad); e != api.ErrSyntax {
			t.Fatalf("%q: %d", bad, e)
		}
	}
}
