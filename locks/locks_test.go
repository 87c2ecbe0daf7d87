package locks

import (
	"fmt"
	"reflect"
	"slices"
	"strconv"
	"testing"

	"intermede/api"
	"intermede/sample"
)

func text[T any](x T, e api.Errno) string {
	if e != api.OK {
		return fmt.Sprint("!", int(e))
	}
	return fmt.Sprint(x)
}

func grants(l []api.Grant) string {
	s := ""
	for _, g := range l {
		s += fmt.Sprint(g.Owner, ".", g.Set, ".", g.Mode, " ")
	}
	return s
}

func held(l []api.Lock, e api.Errno) string {
	s := ""
	for _, k := range l {
		s += fmt.Sprint(k.Owner, ".", k.Set, ".", k.Mode, "x", k.Count, " ")
	}
	return text(s, e)
}

func unlock(s *Sets, owner, set, mode int) string {
	l, e := s.Unlock(owner, set, mode)
	return text(grants(l), e)
}

func change(s *Sets, owner, set, from, to int) string {
	ok, l, e := s.Change(owner, set, from, to)
	return text(fmt.Sprint(ok, grants(l)), e)
}

func ended(l []api.Grant, e api.Errno) string { return text(grants(l), e) }

type step struct{ got, want string }

func steps(t *testing.T, l []step) {
	t.Helper()
	for i, s := range l {
		if s.got != s.want {
			t.Errorf("%d: %q instead of %q", i, s.got, s.want)
		}
	}
}

// made returns sets with owners of the parents.
func made(parents ...int) *Sets {
	s := New()
	for _, p := range parents {
		s.Begin(p)
	}
	return s
}

func TestTogether(t *testing.T) {
	for i, row := range []string{"yyyyn", "yyynn", "yynnn", "ynnyn", "nnnnn"} {
		for j := range row {
			ok, e := Together(i+1, j+1)
			back, _ := Together(j+1, i+1)
			if e != api.OK || ok != (row[j] == 'y') || back != ok {
				t.Error(i, j)
			}
			s := made(0, 0)
			s.Lock(1, 0, i+1)
			if held, _ := s.Lock(2, 0, j+1); held != ok {
				t.Error("locks", i, j)
			}
		}
	}
	for _, c := range [][2]int{{0, 1}, {1, 0}, {6, 1}, {1, 6}, {-1, 1}} {
		if ok, e := Together(c[0], c[1]); ok || e != api.ErrRange {
			t.Error(c)
		}
	}
}

func TestOwners(t *testing.T) {
	s := New()
	steps(t, []step{
		{text(s.Begin(0)), "1"}, {text(s.Begin(1)), "2"}, {text(s.Begin(1)), "3"}, {text(s.Begin(2)), "4"}, {text(s.Begin(5)), "!8"}, {text(s.Begin(-1)), "!8"},
		{fmt.Sprint(s.Owners()), "[1 2 3 4]"}, {text(s.Children(1)), "[2 3]"}, {text(s.Children(4)), "[]"}, {text(s.Children(5)), "!8"}, {text(s.Parent(4)), "2"}, {text(s.Parent(1)), "0"}, {text(s.Parent(0)), "!8"},
		{ended(s.Give(2)), "!10"}, {ended(s.Give(5)), "!8"}, {ended(s.Drop(5)), "!8"}, {ended(s.Leave(5)), "!8"}, {ended(s.Leave(1)), "!10"}, {ended(s.Drop(2)), ""}, {fmt.Sprint(s.Owners()), "[1 3]"}, {text(s.Children(1)), "[3]"}, {text(s.Begin(0)), "5"}, {ended(s.Give(3)), ""}, {ended(s.Give(1)), ""}, {fmt.Sprint(s.Owners()), "[5]"},
	})
	for range maxOwners - 1 {
		s.Begin(5)
	}
	steps(t, []step{{text(s.Begin(5)), "!4"}, {text(s.Begin(1)), "!8"}, {ended(s.Drop(6)), ""}, {text(s.Begin(5)), "1005"}})
}

func TestLock(t *testing.T) {
	s := made(0, 0, 0)
	steps(t, []step{
		{text(s.Lock(1, 0, 0)), "!7"}, {text(s.Lock(1, 0, 6)), "!7"}, {text(s.Lock(9, -1, 1)), "!7"}, {text(s.Lock(1, 100, 1)), "!7"}, {text(s.Lock(9, 0, 1)), "!8"}, {text(s.Try(1, 0, 0)), "!7"}, {text(s.Try(9, 0, 1)), "!8"}, {unlock(s, 1, 0, 6), "!7"}, {unlock(s, 9, 0, 5), "!8"}, {unlock(s, 1, 0, 5), "!10"}, {change(s, 1, 0, 6, 1), "!7"}, {change(s, 1, 0, 1, 6), "!7"}, {change(s, 9, 0, 1, 1), "!8"}, {change(s, 1, 0, 1, 1), "!10"},
		{text(s.Lock(1, 0, 2)), "true"}, {text(s.Lock(1, 0, 2)), "true"}, {text(s.Lock(1, 0, 5)), "true"}, {text(s.Lock(1, 99, 1)), "true"}, {held(s.Held(1)), "1.0.2x2 1.0.5x1 1.99.1x1 "},
		{text(s.Try(2, 0, 1)), "false"}, {held(s.Line(0)), ""}, {text(s.Lock(2, 0, 1)), "false"}, {held(s.Line(0)), "2.0.1x1 "}, {text(s.Lock(2, 1, 1)), "!9"}, {text(s.Try(2, 1, 1)), "!9"}, {unlock(s, 2, 1, 1), "!9"}, {change(s, 2, 1, 1, 1), "!9"}, {ended(s.Give(2)), "!9"}, {text(s.Begin(2)), "!9"}, {text(s.WaitsFor(2)), "[1]"}, {text(s.WaitsFor(1)), "[]"}, {text(s.WaitsFor(9)), "!8"}, {held(s.Held(2)), ""}, {held(s.Held(9)), "!8"},
		{unlock(s, 1, 0, 5), "2.0.1 "}, {text(s.Lock(3, 0, 4)), "false"}, {text(s.Try(3, 0, 4)), "!9"}, {held(s.Holders(0)), "1.0.2x2 2.0.1x1 "}, {held(s.Holders(100)), "!7"}, {held(s.Holders(-1)), "!7"}, {held(s.Line(100)), "!7"}, {ended(s.Leave(3)), ""}, {held(s.Line(0)), ""}, {text(s.Lock(3, 0, 1)), "true"}, {unlock(s, 1, 0, 2), ""}, {unlock(s, 1, 0, 2), ""}, {unlock(s, 1, 0, 2), "!10"},
	})
}

func TestExample(t *testing.T) {
	s := made(0, 0, 0)
	steps(t, []step{{text(s.Lock(1, 7, 2)), "true"}, {text(s.Lock(2, 7, 3)), "true"}, {change(s, 2, 7, 3, 5), "false"}, {text(s.WaitsFor(2)), "[1]"}, {text(s.Lock(3, 7, 2)), "false"}, {text(s.WaitsFor(3)), "[2]"}, {held(s.Line(7)), "2.7.5x1 3.7.2x1 "}, {unlock(s, 1, 7, 2), "2.7.5 "}, {held(s.Held(2)), "2.7.5x1 "}, {text(s.WaitsFor(3)), "[2]"}, {change(s, 2, 7, 5, 2), "true3.7.2 "}, {change(s, 2, 7, 2, 2), "true"}})
}

func TestLine(t *testing.T) {
	s := made(0, 0, 0, 0, 0)
	steps(t, []step{
		// 3 would fit, but waits behind 2; 1 and 4, holders, do not.
		{text(s.Lock(1, 0, 2)), "true"}, {text(s.Lock(4, 0, 1)), "true"}, {text(s.Lock(2, 0, 4)), "false"}, {text(s.Lock(3, 0, 1)), "false"}, {text(s.WaitsFor(3)), "[2]"}, {text(s.Lock(1, 0, 2)), "true"}, {text(s.Try(5, 0, 1)), "false"}, {text(s.Try(4, 0, 2)), "true"}, {text(s.Lock(4, 0, 4)), "false"}, {text(s.WaitsFor(4)), "[1]"}, {text(s.Lock(5, 0, 1)), "false"}, {text(s.WaitsFor(5)), "[2 3 4]"},
		{unlock(s, 1, 0, 2), ""}, {unlock(s, 1, 0, 2), "4.0.4 "}, {text(s.WaitsFor(2)), "[4]"}, {unlock(s, 4, 0, 2), "2.0.4 3.0.1 5.0.1 "},
	})
	s = made(0, 0, 0, 0)
	steps(t, []step{
		// A change goes to the front, before those that wait; what it gave back is gone at once.
		{text(s.Lock(1, 0, 1)), "true"}, {text(s.Lock(2, 0, 1)), "true"}, {text(s.Lock(3, 0, 5)), "false"}, {change(s, 1, 0, 1, 5), "false"}, {held(s.Line(0)), "1.0.5x1 3.0.5x1 "}, {held(s.Held(1)), "1.0.1x1 "}, {text(s.WaitsFor(3)), "[1 2]"}, {ended(s.Drop(2)), "1.0.5 "}, {change(s, 1, 0, 5, 4), "true"}, {text(s.Lock(4, 0, 4)), "false"}, {ended(s.Leave(3)), "4.0.4 "},
	})
	s = made(0, 0, 0)
	steps(t, []step{
		// What a change gives back in one set lets others get theirs.
		{text(s.Lock(1, 0, 2)), "true"}, {text(s.Lock(2, 0, 2)), "true"}, {text(s.Lock(3, 0, 1)), "true"}, {text(s.Lock(3, 0, 4)), "false"}, {change(s, 2, 0, 2, 1), "true"}, {change(s, 1, 0, 2, 4), "true3.0.4 "},
	})
}

func TestNested(t *testing.T) {
	s := made(0, 1, 2, 0, 1)
	steps(t, []step{
		{text(s.Lock(1, 0, 5)), "true"}, {text(s.Lock(3, 0, 5)), "true"}, {text(s.Lock(4, 0, 1)), "false"}, {text(s.WaitsFor(4)), "[1 3]"},
		// 5 would wait behind 4, that waits for 1, that does not go on before 5.
		{text(s.Lock(5, 0, 1)), "!13"}, {ended(s.Leave(4)), ""}, {text(s.Lock(5, 0, 1)), "false"}, {text(s.WaitsFor(5)), "[3]"}, {text(s.Lock(1, 1, 1)), "!9"}, {text(s.Begin(1)), "!9"}, {ended(s.Give(1)), "!9"},
		{ended(s.Give(3)), ""}, {held(s.Held(2)), "2.0.5x1 "}, {text(s.WaitsFor(5)), "[2]"}, {ended(s.Give(2)), "5.0.1 "}, {held(s.Held(1)), "1.0.5x2 "}, {ended(s.Give(5)), ""}, {held(s.Held(1)), "1.0.1x1 1.0.5x2 "}, {text(s.Lock(4, 0, 1)), "false"}, {ended(s.Give(1)), "4.0.1 "}, {held(s.Holders(0)), "4.0.1x1 "},
	})
	s = made(0, 1, 2, 0, 1)
	steps(t, []step{
		{text(s.Lock(4, 3, 5)), "true"}, {text(s.Lock(3, 0, 5)), "true"}, {text(s.Lock(2, 1, 5)), "true"}, {text(s.Lock(3, 3, 5)), "false"}, {text(s.Lock(5, 1, 1)), "false"}, {ended(s.Drop(2)), "5.1.1 "}, {held(s.Line(3)), ""}, {fmt.Sprint(s.Owners()), "[1 4 5]"}, {held(s.Holders(0)), ""}, {ended(s.Drop(4)), ""}, {ended(s.Drop(1)), ""}, {s.Text(), "sets 5\n"},
	})
}

func TestCircles(t *testing.T) {
	s := made(0, 0, 0)
	steps(t, []step{
		{text(s.Lock(1, 1, 5)), "true"}, {text(s.Lock(2, 2, 5)), "true"}, {text(s.Lock(3, 3, 5)), "true"}, {text(s.Lock(1, 2, 1)), "false"}, {text(s.Lock(2, 3, 1)), "false"}, {text(s.Lock(3, 1, 1)), "!13"}, {held(s.Line(1)), ""}, {text(s.Try(3, 1, 1)), "false"}, {text(s.Lock(3, 4, 1)), "true"}, {unlock(s, 3, 3, 5), "2.3.1 "},
	})
	s = made(0, 0, 0)
	steps(t, []step{
		{text(s.Lock(1, 0, 2)), "true"}, {text(s.Lock(2, 0, 2)), "true"}, {change(s, 1, 0, 2, 5), "false"}, {change(s, 2, 0, 2, 5), "!13"}, {held(s.Line(0)), "1.0.5x1 "}, {unlock(s, 2, 0, 2), "1.0.5 "},
	})
	s = made(0, 1, 0)
	steps(t, []step{
		// 1 does not go on as long as 2, its child, waits.
		{text(s.Lock(1, 0, 5)), "true"}, {text(s.Lock(3, 1, 5)), "true"}, {text(s.Lock(2, 1, 1)), "false"}, {text(s.Lock(3, 0, 1)), "!13"}, {ended(s.Leave(2)), ""}, {text(s.Lock(3, 0, 1)), "false"}, {text(s.Lock(2, 1, 1)), "!13"},
	})
	s = made(0, 0, 0, 0)
	steps(t, []step{
		// 3 waits in the line behind 1, that changes: 2 waits for 3, so that 1 may not wait for 2.
		{text(s.Lock(1, 0, 1)), "true"}, {text(s.Lock(2, 0, 1)), "true"}, {text(s.Lock(3, 1, 5)), "true"}, {text(s.Lock(4, 0, 1)), "true"}, {text(s.Lock(3, 0, 5)), "false"}, {unlock(s, 4, 0, 1), ""}, {text(s.Lock(2, 1, 1)), "!13"}, {change(s, 1, 0, 1, 5), "false"}, {text(s.Lock(2, 1, 1)), "!13"},
	})
	s = made(0, 0, 1)
	steps(t, []step{
		// A give to an owner that waits may make a circle, which leaving ends.
		{text(s.Lock(2, 0, 5)), "true"}, {text(s.Lock(3, 1, 5)), "true"}, {text(s.Lock(1, 0, 1)), "false"}, {text(s.Lock(2, 1, 1)), "false"}, {ended(s.Give(3)), ""}, {text(s.WaitsFor(1)), "[2]"}, {text(s.WaitsFor(2)), "[1]"}, {ended(s.Leave(1)), ""}, {unlock(s, 1, 1, 5), "2.1.1 "},
	})
}

func TestLimit(t *testing.T) {
	s := made(0, 0)
	for i := range maxLocks - 1 {
		s.Lock(1, i%100, 1)
	}
	steps(t, []step{{text(s.Lock(2, 0, 5)), "false"}, {text(s.Lock(1, 0, 1)), "!4"}, {ended(s.Leave(2)), ""}, {text(s.Try(1, 0, 1)), "true"}, {text(s.Try(1, 0, 1)), "!4"}, {text(s.Lock(1, 0, 1)), "!4"}, {text(s.Lock(2, 0, 5)), "!4"}, {text(s.Try(2, 0, 5)), "false"}, {held(s.Line(0)), ""}, {change(s, 1, 0, 1, 2), "true"}, {ended(s.Drop(1)), ""}, {text(s.Lock(2, 0, 5)), "true"}})
}

func TestNil(t *testing.T) {
	var s *Sets
	steps(t, []step{
		{text(s.Begin(0)), "!1"}, {text(s.Lock(1, 0, 9)), "!1"}, {text(s.Try(1, 0, 9)), "!1"}, {unlock(s, 1, 0, 9), "!1"}, {change(s, 1, 0, 9, 9), "!1"}, {ended(s.Give(1)), "!1"}, {ended(s.Drop(1)), "!1"}, {ended(s.Leave(1)), "!1"}, {held(s.Held(1)), "!1"}, {held(s.Holders(-1)), "!1"}, {held(s.Line(-1)), "!1"}, {text(s.WaitsFor(1)), "!1"}, {fmt.Sprint(s.Owners()), "[]"}, {text(s.Parent(1)), "!1"}, {text(s.Children(1)), "!1"}, {s.Text(), ""},
	})
	zero := &Sets{}
	steps(t, []step{{text(zero.Lock(1, 0, 1)), "!8"}, {text(zero.Begin(0)), "1"}, {text(zero.Lock(1, 0, 5)), "true"}, {text(zero.Begin(1)), "2"}, {zero.Text(), "sets 2\nowner 1 0\nowner 2 1\nlock 1 0 5 1\n"}})
}

func TestText(t *testing.T) {
	s := made(0, 0)
	s.Lock(1, 3, 2)
	s.Lock(2, 3, 2)
	s.Change(2, 3, 2, 5)
	if got := s.Text(); got != "sets 2\nowner 1 0\nowner 2 0\nlock 1 3 2 1\nlock 2 3 2 1\nwaits 2 3 5 2\n" {
		t.Error(got)
	}
}

func TestCircle(t *testing.T) {
	for i, c := range []struct {
		edges [][2]int
		want  string
	}{{nil, "[]false"}, {[][2]int{{1, 2}, {2, 3}}, "[]false"}, {[][2]int{{5, 5}}, "[5]true"}, {[][2]int{{3, 1}, {1, 2}, {2, 3}}, "[1 2 3]true"}, {[][2]int{{3, 1}, {1, 2}, {2, 3}, {9, 8}, {8, 9}}, "[8 9]true"}, {[][2]int{{9, 8}, {8, 9}, {7, 6}, {6, 7}}, "[6 7]true"}, {[][2]int{{1, 3}, {3, 4}, {4, 1}, {1, 2}, {2, 5}, {5, 1}, {2, 4}}, "[1 2 4]true"}, {[][2]int{{0, 1}, {1, 0}, {1, 0}}, "[0 1]true"}, {[][2]int{{2, 0}, {2, 3}, {3, 2}}, "[2 3]true"}, {[][2]int{{-1, 0}}, "!7"}, {[][2]int{{0, -1}}, "!7"}, {slices.Repeat([][2]int{{0, 1}}, 1000), "[]false"}, {slices.Repeat([][2]int{{0, 1}}, 1001), "!4"}} {
		l, ok, e := Circle(c.edges)
		if got := text(fmt.Sprint(l)+fmt.Sprint(ok), e); got != c.want {
			t.Errorf("%d: %s instead of %s", i, got, c.want)
		}
	}
}

// TestLeast compares circles with all that there are.
func TestLeast(t *testing.T) {
	r := sample.New(26)
	for range 500 {
		var edges [][2]int
		for range r.Int(10) {
			edges = append(edges, [2]int{r.Int(6), r.Int(6)})
		}
		var best []int
		var on func(path []int)
		on = func(path []int) {
			for _, e := range edges {
				if e[0] != path[len(path)-1] {
					continue
				}
				if e[1] == path[0] && (best == nil || len(path) < len(best) || len(path) == len(best) && slices.Compare(path, best) < 0) {
					best = slices.Clone(path)
				}
				if e[1] > path[0] && !slices.Contains(path, e[1]) {
					on(append(slices.Clone(path), e[1]))
				}
			}
		}
		for start := range 6 {
			on([]int{start})
		}
		if l, ok, e := Circle(edges); !slices.Equal(l, best) || ok != (best != nil) || e != api.OK {
			t.Fatal(edges, l, best)
		}
	}
}

func isAncestor(s *Sets, a, o int) bool {
	for p, _ := s.Parent(o); p != 0; p, _ = s.Parent(p) {
		if p == a {
			return true
		}
	}
	return false
}

// edges returns who waits for whom, and for children.
func edges(s *Sets) [][2]int {
	var l [][2]int
	for _, o := range s.Owners() {
		w, _ := s.WaitsFor(o)
		children, _ := s.Children(o)
		for _, to := range append(w, children...) {
			l = append(l, [2]int{o, to})
		}
	}
	return l
}

// check asks for what must hold at any time.
func check(t *testing.T, s *Sets, given bool) {
	t.Helper()
	for set := range 3 {
		l, _ := s.Holders(set)
		for _, a := range l {
			for _, b := range l {
				if ok, _ := Together(a.Mode, b.Mode); a.Owner != b.Owner && !ok && !isAncestor(s, a.Owner, b.Owner) && !isAncestor(s, b.Owner, a.Owner) {
					t.Fatal("locks clash", a, b)
				}
			}
		}
		waiting, _ := s.Line(set)
		for _, w := range waiting {
			if l, _ := s.WaitsFor(w.Owner); len(l) == 0 || slices.Contains(l, w.Owner) {
				t.Fatal("waits for nobody", w)
			}
		}
	}
	if _, ok, _ := Circle(edges(s)); ok && !given {
		t.Fatal("circle", s.Text())
	}
}

func TestRandom(t *testing.T) {
	r := sample.New(260)
	circles := 0
	for range 400 {
		s := made(0, 0, 0, 1, 1, 2, 4)
		given := false
		for range 60 {
			l := s.Owners()
			if len(l) == 0 {
				break
			}
			o, set, mode := l[r.Int(len(l))], r.Int(3), 1+r.Int(5)
			was := s.Text()
			switch r.Int(9) {
			case 0, 1, 2:
				free, _ := twin(t, s).Try(o, set, mode)
				ok, e := s.Lock(o, set, mode)
				if ok != free || e != api.OK && s.Text() != was {
					t.Fatal("try is not lock", was)
				}
				if e == api.ErrCircle {
					circles++
				}
			case 3, 4:
				s.Unlock(o, set, mode)
			case 5:
				if _, _, e := s.Change(o, set, mode, 1+r.Int(5)); e != api.OK && s.Text() != was {
					t.Fatal("changed with an error", was)
				}
			case 6:
				s.Leave(o)
			case 7:
				p, _ := s.Parent(o)
				kept, _ := s.Held(o)
				if _, e := s.Give(o); e == api.OK {
					given = given || p != 0
					inherited(t, s, p, kept)
				}
			default:
				if r.Int(4) == 0 {
					s.Drop(o)
				}
			}
			check(t, s, given)
		}
		for _, o := range s.Owners() {
			s.Drop(o)
		}
		if s.Text() != "sets 7\n" {
			t.Fatal(s.Text())
		}
	}
	if circles == 0 {
		t.Error("no circles")
	}
}

func inherited(t *testing.T, s *Sets, parent int, kept []api.Lock) {
	for _, k := range kept {
		if parent != 0 && s.holds(parent, k.Set, k.Mode) < k.Count {
			t.Fatal("the parent does not hold", k)
		}
	}
}

// twin returns sets that are the same.
func twin(t *testing.T, s *Sets) *Sets {
	x := New()
	x.last, x.locks = s.last, s.locks
	x.owners = map[int]*owner{}
	for n, o := range s.owners {
		c := *o
		c.children = slices.Clone(o.children)
		x.owners[n] = &c
	}
	for set := range s.sets {
		l, _ := s.Holders(set)
		for _, k := range l {
			x.add(k.Owner, set, k.Mode, k.Count)
		}
		x.sets[set].line = slices.Clone(s.sets[set].line)
	}
	if x.Text() != s.Text() {
		t.Fatal("no twin")
	}
	return x
}

func TestDeep(t *testing.T) {
	s := New()
	parent := 0
	for i := range 1000 {
		n, e := s.Begin(parent)
		if e != api.OK || n != i+1 {
			t.Fatal(e)
		}
		if ok, e := s.Lock(n, 0, 5); !ok || e != api.OK {
			t.Fatal(strconv.Itoa(n), e)
		}
		parent = n
	}
	l, e := s.Holders(0)
	if len(l) != 1000 || e != api.OK {
		t.Error(len(l))
	}
	for n := 1000; n > 1; n-- {
		s.Give(n)
	}
	if got := held(s.Held(1)); got != "1.0.5x1000 " {
		t.Error(got)
	}
	if l, _ := s.Drop(1); !reflect.DeepEqual(s.Owners(), []int(nil)) || l != nil {
		t.Error("all is gone")
	}
}
