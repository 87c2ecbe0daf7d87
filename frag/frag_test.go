package frag

import (
	"fmt"
	"slices"
	"strings"
	"testing"

	"intermede/api"
	"intermede/sample"
)

func show(l []api.Piece) string {
	s := ""
	for _, p := range l {
		s += fmt.Sprintf("%d.%d%s", p.ID, p.Place, p.Body)
		if p.More {
			s += "+"
		}
		s += " "
	}
	return strings.TrimSpace(s)
}

func TestValid(t *testing.T) {
	for i, c := range []struct {
		p    api.Piece
		want bool
	}{{api.Piece{}, true}, {api.Piece{ID: api.MaxCount, Place: api.MaxCount, Body: strings.Repeat("x", api.MaxText)}, true}, {api.Piece{ID: -1}, false}, {api.Piece{ID: api.MaxCount + 1}, false}, {api.Piece{Place: -1}, false}, {api.Piece{Place: api.MaxCount + 1}, false}, {api.Piece{More: true}, false}, {api.Piece{More: true, Body: "x"}, true}, {api.Piece{Body: strings.Repeat("x", api.MaxText+1)}, false}} {
		if Valid(c.p) != c.want {
			t.Error(i)
		}
		if _, _, e := Join([]api.Piece{c.p}); !c.want && e != api.ErrInvalid {
			t.Error(i, e)
		}
	}
}

func TestCut(t *testing.T) {
	for _, c := range []struct {
		id   int
		body string
		size int
		want string
		e    api.Errno
	}{{1, "abcde", 2, "1.0ab+ 1.1cd+ 1.2e", 0}, {0, "abcd", 2, "0.0ab+ 0.1cd", 0}, {3, "", 5, "3.0", 0}, {3, "ab", api.MaxText, "3.0ab", 0}, {-1, "a", 0, "", api.ErrInvalid}, {1, strings.Repeat("x", api.MaxText+1), 0, "", api.ErrInvalid}, {1, "a", 0, "", api.ErrRange}, {1, "a", api.MaxText + 1, "", api.ErrRange}} {
		if l, e := Cut(c.id, c.body, c.size); show(l) != c.want || e != c.e {
			t.Error(show(l), e)
		}
	}
	for _, c := range []struct {
		sizes []int
		want  string
		e     api.Errno
	}{{nil, "1.0abcde", 0}, {[]int{1, 2}, "1.0a+ 1.1bc+ 1.2de", 0}, {[]int{1, 4, 1}, "1.0a+ 1.1bcde", 0}, {[]int{9}, "1.0abcde", 0}, {[]int{9, 0}, "", api.ErrRange}, {[]int{-1}, "", api.ErrRange}} {
		if l, e := Sizes(1, "abcde", c.sizes); show(l) != c.want || e != c.e {
			t.Error(show(l), e)
		}
	}
	if _, e := Sizes(-1, "", []int{0}); e != api.ErrInvalid {
		t.Error(e)
	}
	if l, e := Cut(1, strings.Repeat("x", api.MaxText), 1); e != api.OK || len(l) != api.MaxText {
		t.Error(e)
	} else if _, _, e := Join(l); e != api.ErrInvalid {
		t.Error("more than 2,000 pieces", e)
	}
}

func TestJoin(t *testing.T) {
	p := func(id, place int, body string, more bool) api.Piece {
		return api.Piece{ID: id, Place: place, Body: body, More: more}
	}
	long := strings.Repeat("x", api.MaxText)
	for i, c := range []struct {
		l []api.Piece
		e api.Errno
	}{{nil, api.ErrSize}, {[]api.Piece{p(1, 0, "a", true), p(2, 1, "b", false)}, api.ErrKind}, {[]api.Piece{p(1, 1, "a", false)}, api.ErrState}, {[]api.Piece{p(1, 0, "a", true)}, api.ErrState}, {[]api.Piece{p(1, 0, "a", false), p(1, 1, "a", false)}, api.ErrState}, {[]api.Piece{p(1, 0, "a", true), p(1, 2, "a", false)}, api.ErrState}, {[]api.Piece{p(1, 0, "a", true), p(2, 0, long, true)}, api.ErrKind}, {[]api.Piece{p(1, 0, long, true), p(1, 1, "a", false)}, api.ErrLimit}, {[]api.Piece{p(1, 0, long, true), p(1, 1, "a", true)}, api.ErrState}, {[]api.Piece{p(1, 0, long, true), p(1, 1, "", false)}, 0}} {
		id, body, e := Join(c.l)
		if e != c.e || e != 0 && (id != 0 || body != "") {
			t.Error(i, e)
		}
		if _, e := Again(c.l, 5); e != c.e {
			t.Error(i, e)
		}
		if _, e := Again(c.l, 0); e != api.ErrRange {
			t.Error(i, e)
		}
	}
	if _, e := Again([]api.Piece{p(-1, 0, "", false)}, 0); e != api.ErrInvalid {
		t.Error(e)
	}
}

func TestWeave(t *testing.T) {
	a, _ := Cut(1, "abcde", 2)
	b, _ := Cut(2, "x", 2)
	for _, c := range []struct {
		turns []int
		want  string
	}{{[]int{0, 1}, "1.0ab+ 2.0x 1.1cd+ 1.2e"}, {nil, "1.0ab+ 1.1cd+ 1.2e 2.0x"}, {[]int{1, 5, 7, 9, 3, 3}, "2.0x 1.0ab+ 1.1cd+ 1.2e"}, {[]int{2, 3}, "1.0ab+ 2.0x 1.1cd+ 1.2e"}} {
		if l, e := Weave([][]api.Piece{a, nil, b}, c.turns); show(l) != c.want || e != api.OK {
			t.Error(c.turns, show(l), e)
		}
	}
	many := make([]api.Piece, 1001)
	for i, c := range []struct {
		l     [][]api.Piece
		turns []int
		e     api.Errno
	}{{nil, nil, api.ErrRange}, {make([][]api.Piece, 101), nil, api.ErrRange}, {make([][]api.Piece, 100), nil, 0}, {[][]api.Piece{a}, []int{0, -1}, api.ErrRange}, {[][]api.Piece{many, many}, []int{-1}, api.ErrInvalid}, {[][]api.Piece{{{ID: -1}}}, nil, api.ErrInvalid}} {
		if _, e := Weave(c.l, c.turns); e != c.e {
			t.Error(i, e)
		}
	}
}

func TestJoiner(t *testing.T) {
	j, e := New(2, 6)
	if e != api.OK {
		t.Fatal(e)
	}
	take := func(id, place int, body string, more bool) string {
		body, whole, e := j.Take(api.Piece{ID: id, Place: place, Body: body, More: more})
		return fmt.Sprintf("%s%v%d %v%d", body, whole, e, j.Open(), j.Bytes())
	}
	for i, c := range [][2]string{
		{take(1, 0, "ab", true), "false0 [1]2"}, {take(2, 0, "c", true), "false0 [1 2]3"}, {take(3, 0, "d", true), "false4 [1 2]3"}, {take(3, 0, "abcdef", false), "abcdeftrue0 [1 2]3"}, {take(3, 0, "abcdefg", false), "false11 [1 2]3"}, {take(3, 1, "a", true), "false9 [1 2]3"}, {take(1, 1, "xyz", true), "false0 [1 2]6"}, {take(2, 1, "z", false), "false11 [1]5"}, {take(1, 2, "!", false), "abxyz!true0 []0"},
		{take(1, 0, "ab", true), "false0 [1]2"}, {take(1, 0, "ab", true), "false9 []0"}, {take(1, 0, "ab", true), "false0 [1]2"}, {take(1, 2, "ab", true), "false9 []0"}, {take(4, 0, "abcdefg", true), "false11 []0"}, {take(-1, 0, "", false), "false1 []0"}, {take(5, 0, "abcd", true), "false0 [5]4"}, {take(5, 1, "abc", false), "false11 []0"}, {take(6, 0, "", false), "true0 []0"},
	} {
		if c[0] != c[1] {
			t.Errorf("%d: %q instead of %q", i, c[0], c[1])
		}
	}
	j.Take(api.Piece{ID: 9, Body: "ab", More: true})
	j.Take(api.Piece{ID: 7, Body: "c", More: true})
	j.Take(api.Piece{ID: 9, Place: 1, Body: "d", More: true})
	if s, n, e := j.Held(9); s != "abd" || n != 2 || e != api.OK {
		t.Error(s, n, e)
	}
	if _, _, e := j.Held(8); e != api.ErrNone {
		t.Error(e)
	}
	if j.Cancel(8) != api.ErrNone || j.Cancel(-1) != api.ErrInvalid || j.Cancel(9) != api.OK || j.Bytes() != 1 {
		t.Error("Cancel")
	}
	j.Take(api.Piece{ID: 3, Body: "ab", More: true})
	if l := j.Clear(); !slices.Equal(l, []int{3, 7}) || j.Bytes() != 0 || len(j.Open()) != 0 {
		t.Error(l)
	}
	for i, c := range [][2]int{{0, 1}, {101, 1}, {1, 0}, {1, 1000001}} {
		if j, e := New(c[0], c[1]); e != api.ErrRange || j != nil {
			t.Error(i, e)
		}
	}
	var none *Joiner
	_, _, e1 := none.Take(api.Piece{})
	_, _, e2 := none.Held(1)
	if e1 != api.ErrInvalid || e2 != api.ErrInvalid || none.Cancel(1) != api.ErrInvalid || none.Open() != nil || none.Bytes() != 0 || none.Clear() != nil {
		t.Error("nil")
	}
	big, _ := New(1, maxRoom)
	half := strings.Repeat("x", api.MaxText)
	big.Take(api.Piece{ID: 1, Body: half, More: true})
	if _, _, e := big.Take(api.Piece{ID: 1, Place: 1, Body: "x"}); e != api.ErrSize || len(big.Open()) != 0 {
		t.Error(e)
	}
}

func TestAll(t *testing.T) {
	l := []api.Piece{{ID: 1, Body: "a", More: true}, {ID: 2, Body: "b"}, {ID: 1, Place: 1, Body: "c"}, {ID: 3, Place: 1}, {ID: 4}}
	ids, bodies, bad, e := All(l, 5, 5)
	if !slices.Equal(ids, []int{2, 1}) || !slices.Equal(bodies, []string{"b", "ac"}) || bad != 3 || e != api.ErrState {
		t.Error(ids, bodies, bad, e)
	}
	if ids, _, bad, e := All(l[:3], 5, 5); len(ids) != 2 || bad != -1 || e != api.OK {
		t.Error(bad, e)
	}
	if ids, _, bad, e := All(append(l[:2:2], api.Piece{ID: -1}), 5, 5); len(ids) != 1 || bad != 2 || e != api.ErrInvalid {
		t.Error(bad, e)
	}
	if _, _, bad, e := All(make([]api.Piece, 2001), 0, 5); bad != 0 || e != api.ErrInvalid {
		t.Error(bad, e)
	}
	if _, _, bad, e := All(nil, 0, 5); bad != 0 || e != api.ErrRange {
		t.Error(bad, e)
	}
}

func TestRandom(t *testing.T) {
	s := sample.New(71)
	for range 1000 {
		var lists [][]api.Piece
		bodies := map[int]string{}
		for id := range 1 + s.Int(5) {
			body := s.Text("abc", 30)
			bodies[id] = body
			l, _ := Cut(id, body, 1+s.Int(9))
			if s.Int(2) == 0 {
				l, _ = Sizes(id, body, []int{1 + s.Int(5), 1 + s.Int(5)})
			}
			if n, again, e := Join(l); n != id || again != body || e != api.OK {
				t.Fatal(show(l))
			}
			other, e := Again(l, 1+s.Int(9))
			if _, again, _ := Join(other); again != body || e != api.OK {
				t.Fatal(show(other))
			}
			lists = append(lists, other)
		}
		turns := make([]int, s.Int(40))
		for i := range turns {
			turns[i] = s.Int(100)
		}
		woven, e := Weave(lists, turns)
		if e != api.OK {
			t.Fatal(e)
		}
		ids, got, bad, e := All(woven, 10, 1000)
		if e != api.OK || bad != -1 || len(ids) != len(bodies) {
			t.Fatal(e, bad)
		}
		for i, id := range ids {
			if bodies[id] != got[i] {
				t.Fatal(id)
			}
		}
		apart(t, s, woven)
	}
}

// apart asks that cancelling one message changes nothing of the others.
func apart(t *testing.T, s *sample.Source, woven []api.Piece) {
	gone := s.Int(5)
	j, _ := New(10, 1000)
	k, _ := New(10, 1000)
	at := s.Int(len(woven))
	for i, p := range woven {
		if i == at {
			j.Cancel(gone)
		}
		b1, w1, e1 := j.Take(p)
		b2, w2, e2 := k.Take(p)
		if p.ID != gone && (b1 != b2 || w1 != w2 || e1 != e2) {
			t.Fatal("apart")
		}
		n := 0
		for _, id := range j.Open() {
			held, _, _ := j.Held(id)
			n += len(held)
		}
		if n != j.Bytes() {
			t.Fatal("bytes")
		}
	}
}
