package relate

import (
	"fmt"
	"math"
	"slices"
	"strconv"
	"strings"
	"testing"

	"intermede/api"
	"intermede/sample"
)

type step struct{ got, want string }

func steps(t *testing.T, l []step) {
	t.Helper()
	for i, s := range l {
		if s.got != s.want {
			t.Errorf("%d: %q instead of %q", i, s.got, s.want)
		}
	}
}

func text[T any](x T, e api.Errno) string {
	if e != api.OK {
		return fmt.Sprint("!", int(e))
	}
	return fmt.Sprint(x)
}

func texts[T, U any](x T, y U, e api.Errno) string {
	if e != api.OK {
		return fmt.Sprint("!", int(e))
	}
	return fmt.Sprint(x) + fmt.Sprint(y)
}

func code(e api.Errno) string { return strconv.Itoa(int(e)) }

// sorted reads a short form: `NAME ROLE LEAST MOST HOWS ROLE ..`, HOWS being three digits for copy, move and remove.
func sorted(s string) api.Sort {
	words := strings.Fields(s)
	x := api.Sort{Name: words[0]}
	for l := words[1:]; len(l) > 0; l = l[4:] {
		r := api.Role{Name: l[0]}
		r.Least, _ = strconv.Atoi(l[1])
		r.Most, _ = strconv.Atoi(l[2])
		r.Copy, r.Move, r.Remove = int(l[3][0]-'0'), int(l[3][1]-'0'), int(l[3][2]-'0')
		x.Roles = append(x.Roles, r)
	}
	return x
}

func world(t *testing.T, objects int, sorts ...string) *World {
	t.Helper()
	var l []api.Sort
	for _, s := range sorts {
		l = append(l, sorted(s))
	}
	w, e := New(l)
	if e != api.OK {
		t.Fatal(e)
	}
	for i := range objects {
		w.Make(i, "t"+strconv.Itoa(i+1))
	}
	return w
}

func planOf(w *World, id, act int) string {
	objects, relations, touched, e := w.Plan(id, act)
	return texts(objects, fmt.Sprint(relations, touched), e)
}

const folder = "part whole 0 0 132 file 0 1 331"

func TestValidSort(t *testing.T) {
	good := sorted("s a 0 0 111 b 1 100 333 c 1 1 222")
	for i, c := range []struct {
		change func(*api.Sort)
		want   bool
	}{
		{func(s *api.Sort) {}, true}, {func(s *api.Sort) { s.Roles = s.Roles[:2] }, true}, {func(s *api.Sort) { s.Roles = s.Roles[:1] }, false}, {func(s *api.Sort) { s.Roles = nil }, false}, {func(s *api.Sort) { s.Roles = append(s.Roles, api.Role{Name: "d", Copy: 1, Move: 1, Remove: 1}) }, false}, {func(s *api.Sort) { s.Name = "" }, false}, {func(s *api.Sort) { s.Name = "1" }, false}, {func(s *api.Sort) { s.Name = "a b" }, false}, {func(s *api.Sort) { s.Name = "A_1" }, true}, {func(s *api.Sort) { s.Name = strings.Repeat("a", 32) }, true}, {func(s *api.Sort) { s.Name = strings.Repeat("a", 33) }, false},
		{func(s *api.Sort) { s.Roles[2].Name = "a" }, false}, {func(s *api.Sort) { s.Roles[2].Name = "s" }, true}, {func(s *api.Sort) { s.Roles[0].Name = "_" }, false}, {func(s *api.Sort) { s.Roles[0].Least = 2 }, false}, {func(s *api.Sort) { s.Roles[0].Least = -1 }, false}, {func(s *api.Sort) { s.Roles[0].Most = 101 }, false}, {func(s *api.Sort) { s.Roles[0].Most = -1 }, false}, {func(s *api.Sort) { s.Roles[1].Copy = 0 }, false}, {func(s *api.Sort) { s.Roles[1].Move = 4 }, false}, {func(s *api.Sort) { s.Roles[1].Remove = -1 }, false}, {func(s *api.Sort) { s.Roles[1].Remove = 2 }, true},
	} {
		s := good
		s.Roles = slices.Clone(good.Roles)
		c.change(&s)
		w, e := New([]api.Sort{sorted(folder), s})
		if ValidSort(s) != c.want || (e == api.OK) != c.want || !c.want && (e != api.ErrInvalid || w != nil) {
			t.Error(i, e)
		}
	}
	var many []api.Sort
	for i := range 21 {
		many = append(many, good)
		many[i].Name = "s" + strconv.Itoa(i)
	}
	_, e1 := New(many[:20])
	_, e2 := New(many)
	_, e3 := New([]api.Sort{good, good})
	if e1 != api.OK || e2 != api.ErrInvalid || e3 != api.ErrInvalid {
		t.Error(e1, e2, e3)
	}
	s := sorted(folder)
	w, _ := New([]api.Sort{s})
	s.Roles[0].Name = "x"
	if !strings.Contains(w.Format(), "role whole") {
		t.Error("memory is shared")
	}
}

func TestMake(t *testing.T) {
	w := world(t, 0, folder, "three a 0 0 111 b 0 2 111 c 0 0 111")
	long := strings.Repeat("x", 1000)
	relate := func(sort string, objects ...int) string { return text(w.Relate(sort, objects)) }
	steps(t, []step{
		{text(w.Make(0, "")), "1"}, {text(w.Make(1000, long)), "2"}, {text(w.Make(1001, "")), "!7"}, {text(w.Make(-1, "")), "!7"}, {text(w.Make(-1, long+"x")), "!1"}, {text(w.Make(5, "five")), "3"}, {text(w.Objects(), api.OK), "[1 2 3]"}, {text(w.Object(3)), "{3 5 five}"}, {text(w.Object(4)), "!8"}, {text(w.Object(0)), "!8"}, {text(w.Object(-1)), "!7"},
		{relate("part", 1, 2), "1"}, {relate("part", 3, 2), "!9"}, {relate("part", 1, 3), "2"}, {relate("three", 1, 1, 1), "3"}, {relate("three", 2, 1, 1), "4"}, {relate("three", 2, 1, 3), "!9"}, {relate("three", 1, 2, 3), "5"}, {relate("part", 1), "!11"}, {relate("part", 1, 2, 3), "!11"}, {relate("part"), "!11"}, {relate("part", 1, 9), "!8"}, {relate("part", 9), "!8"}, {relate("none", 9, 9), "!5"}, {relate("none", 9, -9), "!7"}, {relate("a b", 9, -9), "!1"}, {relate("", 1, 2), "!1"},
		{text(w.Relations(), api.OK), "[1 2 3 4 5]"}, {text(w.Relation(4)), "{4 three [2 1 1]}"}, {text(w.Relation(6)), "!8"}, {text(w.Relation(-6)), "!7"}, {code(w.Unrelate(6)), "8"}, {code(w.Unrelate(-1)), "7"}, {code(w.Unrelate(1)), "0"}, {code(w.Unrelate(1)), "8"}, {relate("part", 3, 2), "6"}, {text(w.Relations(), api.OK), "[2 3 4 5 6]"},
		{text(w.Of(1, "three", "b")), "[3 4]"}, {text(w.Of(1, "three", "a")), "[3 5]"}, {text(w.Of(1, "part", "file")), "[]"}, {text(w.Of(9, "part", "file")), "!8"}, {text(w.Of(9, "part", "b")), "!5"}, {text(w.Of(9, "b", "file")), "!5"}, {text(w.Of(-9, "b", "file")), "!7"}, {text(w.Of(-9, "b", "a-")), "!1"}, {text(w.Of(-9, "1", "a")), "!1"},
		{text(w.Others(1, "three", "b", "a")), "[1 2]"}, {text(w.Others(1, "three", "b", "c")), "[1]"}, {text(w.Others(1, "three", "b", "b")), "[1]"}, {text(w.Others(2, "three", "b", "b")), "[2]"}, {text(w.Others(3, "three", "a", "b")), "[]"}, {text(w.Others(1, "part", "whole", "file")), "[3]"}, {text(w.Others(1, "part", "whole", "a")), "!5"}, {text(w.Others(8, "part", "whole", "")), "!1"}, {text(w.Others(8, "part", "whole", "file")), "!8"},
	})
	r, _ := w.Relation(4)
	r.Objects[0] = 9
	l := []int{1, 2}
	w.Unrelate(6)
	n, _ := w.Relate("part", l)
	l[0] = 3
	if text(w.Relation(4)) != "{4 three [2 1 1]}" || text(w.Relation(n)) != "{7 part [1 2]}" {
		t.Error("memory is shared")
	}
}

func TestLimits(t *testing.T) {
	w := world(t, 499, "s a 0 0 111 b 0 1 333", "t a 0 0 333 b 0 0 333")
	for i := range 999 {
		if _, e := w.Relate("t", []int{1, 1 + i%499}); e != api.OK {
			t.Fatal(e)
		}
	}
	steps(t, []step{
		{texts(w.Copy(1, 0)), "[[1 500]][]"}, {text(w.Make(0, "")), "!4"}, {texts(w.Copy(1, 0)), "!4"}, {texts(w.Copy(1, 1001)), "!7"}, {texts(w.Copy(501, 0)), "!8"}, {text(w.Relate("t", []int{1, 2})), "1000"}, {text(w.Relate("t", []int{1, 2})), "!4"}, {text(w.Relate("s", []int{1})), "!11"}, {texts(w.Remove(500)), "[500][]"}, {text(w.Make(0, "")), "501"}, {code(w.Unrelate(7)), "0"}, {text(w.Relate("s", []int{1, 501})), "1001"}, {text(w.Relate("s", []int{2, 501})), "!9"}, {texts(w.Remove(499)), "[499][499 998]"}, {texts(w.Copy(1, 0)), "!4"}, {texts(w.Remove(498)), "[498][498 997]"}, {texts(w.Copy(1, 0)), "[[1 502] [501 503]][[1001 1002]]"},
	})
}

func TestPlan(t *testing.T) {
	w := world(t, 3, folder)
	w.Relate("part", []int{1, 2})
	w.Relate("part", []int{1, 3})
	steps(t, []step{
		{planOf(w, 1, 1), "[1 2 3][1 2] []"}, {planOf(w, 2, 1), "[2][] []"}, {planOf(w, 1, 2), "[1][] []"}, {planOf(w, 1, 3), "[1][1 2] [2 3]"}, {planOf(w, 2, 3), "[1 2][1 2] [3]"}, {planOf(w, 1, 0), "!7"}, {planOf(w, 1, 4), "!7"}, {planOf(w, -1, 1), "!7"}, {planOf(w, 4, 1), "!8"}, {planOf(w, 4, 9), "!7"},
	})
	// A circle, an object in two roles, a relation that is done from one side.
	c := world(t, 6, "s a 0 0 111 b 0 0 333", "t a 0 0 222 b 0 0 111 c 0 0 333")
	for _, x := range []struct {
		sort    string
		objects []int
	}{{"s", []int{1, 2}}, {"s", []int{2, 1}}, {"s", []int{3, 3}}, {"t", []int{2, 4, 5}}, {"t", []int{6, 6, 5}}, {"t", []int{3, 6, 3}}} {
		if _, e := c.Relate(x.sort, x.objects); e != api.OK {
			t.Fatal(e)
		}
	}
	steps(t, []step{
		{planOf(c, 1, 1), "[1 2][1 2 4] [4 5]"}, {planOf(c, 3, 1), "[3][3 6] [6]"}, {planOf(c, 4, 2), "[1 2 4 5][1 2 4] []"}, {planOf(c, 5, 2), "[5][] []"}, {planOf(c, 6, 3), "[3 5 6][3 5 6] []"},
	})
}

func TestCopy(t *testing.T) {
	w := world(t, 4, folder, "s a 0 0 222 b 0 2 333")
	w.Relate("part", []int{1, 2})
	w.Relate("part", []int{1, 3})
	w.Relate("s", []int{2, 4})
	w.Relate("s", []int{2, 2})
	before := w.Format()
	steps(t, []step{
		{planOf(w, 1, 1), "[1 2 3][1 2 3 4] [4]"}, {texts(w.Copy(1, 9)), "[[1 5] [2 6] [3 7]][[1 5] [2 6] [3 7] [4 8]]"}, {text(w.Relation(7)), "{7 s [6 4]}"}, {text(w.Relation(8)), "{8 s [6 6]}"}, {text(w.Relation(5)), "{5 part [5 6]}"}, {text(w.Object(6)), "{6 9 t2}"}, {texts(w.Copy(1, 9)), "!9"}, {texts(w.Copy(-1, 9)), "!7"}, {texts(w.Copy(1, -1)), "!7"}, {texts(w.Copy(0, 9)), "!8"}, {texts(w.Copy(3, 1)), "[[3 8]][]"}, {texts(w.Remove(8)), "[8][]"}, {texts(w.Remove(5)), "[5][5 6]"},
	})
	if after := w.Format(); !strings.Contains(after, before[strings.Index(before, "object 1"):strings.Index(before, "tie")]) || strings.Contains(after, "tie 5") {
		t.Error(after)
	}
	// A touched object that stands in two roles, of which one has no room.
	v := world(t, 2, "t a 0 0 222 b 0 0 333 c 0 1 333")
	v.Relate("t", []int{1, 2, 2})
	before = v.Format()
	steps(t, []step{{texts(v.Copy(1, 0)), "!9"}, {fmt.Sprint(v.Format() == before), "true"}, {texts(v.Copy(2, 0)), "[[2 3]][]"}})
	// Two relations at once pass Most together.
	u := world(t, 2, "t a 0 0 222 b 0 3 333")
	u.Relate("t", []int{1, 2})
	u.Relate("t", []int{1, 2})
	steps(t, []step{{texts(u.Copy(1, 0)), "!9"}})
}

func TestMove(t *testing.T) {
	w := world(t, 4, "part whole 0 0 313 file 0 1 331")
	w.Relate("part", []int{1, 2})
	w.Relate("part", []int{2, 3})
	w.Relate("part", []int{4, 1})
	steps(t, []step{
		{text(w.Move(1, 77)), "[1 2 3]"}, {text(w.Object(3)), "{3 77 t3}"}, {text(w.Object(4)), "{4 3 t4}"}, {text(w.Move(3, 1000)), "[3]"}, {text(w.Move(1, 1001)), "!7"}, {text(w.Move(-1, 1)), "!7"}, {text(w.Move(5, 1)), "!8"}, {text(w.Object(1)), "{1 77 t1}"},
	})
}

func TestRemove(t *testing.T) {
	w := world(t, 5, folder, "s a 0 0 333 b 0 0 332")
	w.Relate("part", []int{1, 2})
	w.Relate("part", []int{1, 3})
	w.Relate("s", []int{3, 4})
	w.Relate("s", []int{5, 2})
	steps(t, []step{
		{planOf(w, 3, 3), "[1 3][1 2] [2]"}, {texts(w.Remove(3)), "[1 3][1 2 3]"}, {text(w.Objects(), api.OK), "[2 4 5]"}, {text(w.Relations(), api.OK), "[4]"}, {texts(w.Remove(3)), "!8"}, {texts(w.Remove(-3)), "!7"}, {planOf(w, 2, 3), "[2][4] [5]"}, {texts(w.Remove(5)), "[5][4]"}, {text(w.Make(0, "")), "6"}, {text(w.Relate("s", []int{6, 6})), "5"}, {texts(w.Remove(6)), "[6][5]"}, {text(w.Make(0, "")), "7"},
	})
}

func TestLacking(t *testing.T) {
	w := world(t, 4, "z a 1 0 111 b 1 0 111 c 0 0 111", "s a 1 0 333 b 0 0 333")
	steps(t, []step{{fmt.Sprint(w.Lacking()), "[]"}})
	w.Relate("z", []int{1, 2, 3})
	w.Relate("s", []int{4, 3})
	w.Relate("s", []int{2, 1})
	steps(t, []step{{fmt.Sprint(w.Lacking()), "[{1 s a} {1 z b} {2 z a} {3 s a} {3 z a} {3 z b}]"}})
	w.Relate("z", []int{3, 1, 3})
	steps(t, []step{
		{fmt.Sprint(w.Lacking()), "[{1 s a} {2 z a} {3 s a} {3 z b}]"},
		{text(w.Reached(1, 0)), "[1]"}, {text(w.Reached(4, 1)), "[3 4]"}, {text(w.Reached(4, 2)), "[1 2 3 4]"}, {text(w.Reached(4, 1<<60)), "[1 2 3 4]"}, {text(w.Reached(4, -1)), "!7"}, {text(w.Reached(-4, 1)), "!7"}, {text(w.Reached(5, 1)), "!8"},
	})
}

func TestSame(t *testing.T) {
	made := func() *World {
		w := world(t, 3, folder, "s a 0 0 333 b 0 0 332")
		w.Relate("s", []int{1, 2})
		return w
	}
	a := made()
	for i, c := range []struct {
		change func(*World)
		want   bool
	}{
		{func(w *World) {}, true}, {func(w *World) { w.Make(0, "") }, false}, {func(w *World) { w.Make(0, ""); w.Remove(4) }, true}, {func(w *World) { w.Move(1, 9) }, false}, {func(w *World) { w.Relate("s", []int{1, 2}) }, false}, {func(w *World) { w.Relate("s", []int{1, 2}); w.Unrelate(1) }, false}, {func(w *World) { w.Relate("s", []int{1, 2}); w.Unrelate(2) }, true}, {func(w *World) { w.sorts[0].Roles[0].Most = 5 }, false}, {func(w *World) { w.sorts = w.sorts[:1] }, false}, {func(w *World) { w.sorts[0].Name = "q" }, false},
	} {
		b := made()
		c.change(b)
		if a.Same(b) != c.want || b.Same(a) != c.want {
			t.Error(i)
		}
	}
	var none *World
	if none.Same(a) || a.Same(none) || none.Same(none) {
		t.Error("nil")
	}
}

func TestNil(t *testing.T) {
	var w *World
	_, e1 := w.Make(-1, "")
	_, e2 := w.Relate("a", []int{-1})
	_, e3 := w.Object(-1)
	_, e4 := w.Relation(-1)
	_, e5 := w.Of(-1, "a", "b")
	_, e6 := w.Others(-1, "a", "b", "c")
	_, _, _, e7 := w.Plan(-1, 1)
	_, _, e8 := w.Copy(-1, 1)
	_, e9 := w.Move(-1, 1)
	_, _, e10 := w.Remove(-1)
	_, e11 := w.Reached(-1, 1)
	for i, e := range []api.Errno{w.Unrelate(-1), e1, e2, e3, e4, e5, e6, e7, e8, e9, e10, e11} {
		if e != api.ErrInvalid {
			t.Error(i, e)
		}
	}
	if w.Objects() != nil || w.Relations() != nil || w.Lacking() != nil || w.Format() != "" {
		t.Error("nil")
	}
	var zero World
	if n, e := zero.Make(1, "x"); n != 1 || e != api.OK || zero.Format() != "next 2 1\nobject 1 1 \"x\"\n" {
		t.Error("an empty world")
	}
}

func readLine(s string) string {
	w, line, e := Read(s)
	if e != api.OK && w != nil {
		return "a world with an error"
	}
	if e == api.OK && w.Format() != s {
		return "not back: " + w.Format()
	}
	return fmt.Sprint(line, " ", int(e))
}

func TestRead(t *testing.T) {
	w := world(t, 2, folder, "t a 0 0 111 b 1 100 222 c 0 0 333")
	w.Make(7, "a\"b\\c\nd \x00")
	w.Relate("t", []int{1, 1, 3})
	w.Relate("part", []int{1, 2})
	w.Unrelate(1)
	w.Relate("t", []int{1, 2, 3})
	all := "sort part\n  role whole 0 0 deep none shallow\n  role file 0 1 none none deep\nsort t\n  role a 0 0 deep deep deep\n  role b 1 100 shallow shallow shallow\n  role c 0 0 none none none\nnext 4 4\nobject 1 0 \"t1\"\nobject 2 1 \"t2\"\nobject 3 7 \"a\\\"b\\\\c\\nd \x00\"\ntie 2 part 1 2\ntie 3 t 1 2 3\n"
	if w.Format() != all {
		t.Error(w.Format())
	}
	lines := strings.SplitAfter(all, "\n")
	for i := range lines[:len(lines)-1] {
		want := "0 0"
		if i < 8 {
			want = strconv.Itoa(i) + " 2"
		}
		begun := strings.Join(lines[:i], "")
		steps(t, []step{{readLine(begun), want}, {readLine(begun + strings.TrimSuffix(lines[i], "\n")), strconv.Itoa(i) + " 2"}, {readLine(begun + "x\n"), strconv.Itoa(i) + " 2"}, {readLine(begun + " " + lines[i]), strconv.Itoa(i) + " 2"}, {readLine(begun + strings.TrimSuffix(lines[i], "\n") + " \n"), strconv.Itoa(i) + " 2"}})
	}
	head, r := "sort s\n  role a 0 0 deep deep deep\n  role b 0 1 deep deep deep\n", "  role c 0 0 deep deep deep\n"
	few := head + "next 5 5\nobject 2 1 \"x\"\nobject 3 1 \"\"\n"
	many := ""
	for i := range 20 {
		many += strings.Replace(head, "sort s", "sort s"+strconv.Itoa(i), 1)
	}
	objects := "next 600 1\n"
	for i := range 500 {
		objects += "object " + strconv.Itoa(i+1) + " 1 \"\"\n"
	}
	ties := "sort s\n  role a 0 0 deep deep deep\n  role b 0 0 deep deep deep\nnext 2 2000\nobject 1 0 \"\"\n"
	for i := range 1000 {
		ties += "tie " + strconv.Itoa(i+1) + " s 1 1\n"
	}
	steps(t, []step{
		{readLine(""), "0 2"}, {readLine("next 1 1\n"), "0 0"}, {readLine("next 0 1\n"), "0 2"}, {readLine("next 1 0\n"), "0 2"}, {readLine("next -1 1\n"), "0 2"}, {readLine("next 01 1\n"), "0 2"}, {readLine("next 1\n"), "0 2"}, {readLine("next 1 1\nnext 1 1\n"), "1 2"}, {readLine("next 1 99999999999999999999\n"), "0 2"}, {readLine("next 1 1\nobject 1 0 \"\"\n"), "1 2"}, {readLine("next 1 1\nsort s\n"), "1 2"}, {readLine("next 1 1\n\n"), "1 2"},
		{readLine(head), "3 2"}, {readLine(head + r + r), "4 2"}, {readLine(head + strings.Replace(r, "c", "a", 1)), "3 2"}, {readLine(head + strings.Replace(r, "c", "1", 1)), "3 2"}, {readLine(head + strings.Replace(r, "0 0", "2 0", 1)), "3 2"}, {readLine(head + strings.Replace(r, "0 0", "0 101", 1)), "3 2"}, {readLine(head + strings.Replace(r, "deep", "Deep", 1)), "3 2"}, {readLine(head + strings.Replace(r, "deep", "", 1)), "3 2"}, {readLine(head + head), "3 2"}, {readLine("sort s\nsort t\n"), "1 2"}, {readLine("sort s\n" + r + "next 1 1\n"), "2 2"}, {readLine("sort 1\n"), "0 2"}, {readLine(r), "0 2"}, {readLine("next 1 1\n" + r), "1 2"}, {readLine(many + "next 1 1\n"), "0 0"}, {readLine(many + head), "60 2"},
		{readLine(few), "0 0"}, {readLine(few + "object 3 1 \"\"\n"), "6 2"}, {readLine(few + "object 1 1 \"\"\n"), "6 2"}, {readLine(few + "object 5 1 \"\"\n"), "6 2"}, {readLine(few + "object 4 1001 \"\"\n"), "6 2"}, {readLine(few + "object 4 -1 \"\"\n"), "6 2"}, {readLine(few + "object 4 1000 \"" + strings.Repeat("x", 1000) + "\"\n"), "0 0"}, {readLine(few + "object 4 1 \"" + strings.Repeat("x", 1001) + "\"\n"), "6 2"}, {readLine(few + "object 4 1\n"), "6 2"}, {readLine(few + "object 4 1 \"\n"), "6 2"}, {readLine(few + "object 4 1 x\n"), "6 2"}, {readLine(few + "object 4 1 \"a\"b\"\n"), "6 2"}, {readLine(few + "object 4 1 \"a  b\"\n"), "0 0"}, {readLine(few + "object 04 1 \"\"\n"), "6 2"}, {readLine(objects), "0 0"}, {readLine(objects + "object 501 1 \"\"\n"), "501 2"}, {readLine("next 2 1\nobject 0 1 \"\"\n"), "1 2"},
		{readLine(few + "tie 1 s 2 3\ntie 4 s 3 2\n"), "0 0"}, {readLine(few + "tie 1 s 2 3\ntie 4 s 3 3\n"), "7 2"}, {readLine(few + "tie 5 s 2 3\n"), "6 2"}, {readLine(few + "tie 0 s 2 3\n"), "6 2"}, {readLine(few + "tie 1 s 2 4\n"), "6 2"}, {readLine(few + "tie 1 s 2\n"), "6 2"}, {readLine(few + "tie 1 s 2 3 3\n"), "6 2"}, {readLine(few + "tie 1 t 2 3\n"), "6 2"}, {readLine(few + "tie 2 s 2 3\ntie 1 s 2 2\n"), "7 2"}, {readLine(few + "tie 2 s 2 3\nobject 4 1 \"\"\n"), "7 2"}, {readLine(few + "tie 1 s 2 03\n"), "6 2"}, {readLine(few + "tie 1 s\n"), "6 2"}, {readLine(head + "tie 1 s 1 1\n"), "3 2"}, {readLine(ties), "0 0"}, {readLine(ties + "tie 1001 s 1 1\n"), "1005 2"},
		{readLine(strings.Repeat("x", api.MaxText)), "0 2"}, {readLine(strings.Repeat("x", api.MaxText+1)), "0 3"},
	})
	far, _, e := Read("next " + strconv.Itoa(math.MaxInt) + " 1\n")
	if e != api.OK || text(far.Make(0, "")) != "!4" {
		t.Error("no number is left")
	}
}

// anyWorld returns a world of few objects with many relations.
func anyWorld(r *sample.Source) *World {
	var sorts []api.Sort
	for i := range 1 + r.Int(3) {
		s := api.Sort{Name: "s" + strconv.Itoa(r.Int(3)) + strconv.Itoa(i)}
		for j := range 2 + r.Int(2) {
			s.Roles = append(s.Roles, api.Role{Name: "r" + strconv.Itoa(j), Least: r.Int(2), Most: r.Int(5), Copy: 1 + r.Int(3), Move: 1 + r.Int(3), Remove: 1 + r.Int(3)})
		}
		sorts = append(sorts, s)
	}
	w, _ := New(sorts)
	for range 2 + r.Int(6) {
		w.Make(r.Int(3), r.Text("a\"\\\n ", 3))
	}
	for range r.Int(12) {
		s := sorts[r.Int(len(sorts))]
		var l []int
		for range s.Roles {
			l = append(l, 1+r.Int(w.lastObject))
		}
		w.Relate(s.Name, l)
	}
	return w
}

func copyOf(w *World) *World {
	c, _, _ := Read(w.Format())
	return c
}

// spreads tells how an act goes over from an object in a relation.
func spreads(w *World, t api.Tied, id, act int) int {
	s := w.sorts[named(w.sorts, t.Sort, sortName)]
	how := 3
	for i, o := range t.Objects {
		if o == id {
			how = min(how, [...]int{0, s.Roles[i].Copy, s.Roles[i].Move, s.Roles[i].Remove}[act])
		}
	}
	return how
}

// isClosed reports whether a plan has all that deep leads to, and nothing else.
func isClosed(w *World, id, act int) bool {
	objects, relations, touched, _ := w.Plan(id, act)
	reached := []int{id}
	for i := 0; i < len(reached); i++ {
		for _, n := range w.Relations() {
			t, _ := w.Relation(n)
			how := spreads(w, t, reached[i], act)
			if (how < 3) && !slices.Contains(relations, n) {
				return false
			}
			for _, o := range t.Objects {
				if how == 1 && !slices.Contains(reached, o) {
					reached = append(reached, o)
				}
			}
		}
	}
	for _, n := range relations {
		t, _ := w.Relation(n)
		if !slices.ContainsFunc(objects, func(o int) bool { return spreads(w, t, o, act) < 3 }) {
			return false
		}
		for _, o := range t.Objects {
			if slices.Contains(objects, o) == slices.Contains(touched, o) {
				return false
			}
		}
	}
	slices.Sort(reached)
	return slices.Equal(reached, objects)
}

// isRight reports whether no relation has an object that there is not, and no object is in more than Most.
func isRight(w *World) bool {
	c := copyOf(w)
	return c != nil && c.Same(w) && c.Format() == w.Format()
}

func TestPromises(t *testing.T) {
	r := sample.New(31)
	copied := 0
	for range 1000 {
		w := anyWorld(r)
		id := 1 + r.Int(w.lastObject)
		for act := 1; act <= 3; act++ {
			if !isClosed(w, id, act) {
				t.Fatal(id, act, w.Format())
			}
		}
		before := copyOf(w)
		_, relations, _, _ := w.Plan(id, 1)
		objects, ties, e := w.Copy(id, 5)
		if !isRight(w) {
			t.Fatal("not right", w.Format())
		}
		if e != api.OK {
			if e != api.ErrState || !w.Same(before) {
				t.Fatal(e)
			}
		} else {
			copied++
			isCopied(t, before, w, objects, ties, relations)
		}
		gone, went, _ := w.Remove(id)
		if !isRight(w) || slices.Contains(w.Objects(), id) || len(gone) == 0 || slices.ContainsFunc(went, func(n int) bool { return slices.Contains(w.Relations(), n) }) {
			t.Fatal("not removed", w.Format())
		}
	}
	if copied < 200 {
		t.Error(copied)
	}
}

// isCopied asks that the copies are tied as what was done is, and that the rest is as it was.
func isCopied(t *testing.T, before, w *World, objects, ties [][2]int, relations []int) {
	t.Helper()
	of := map[int]int{}
	for _, pair := range objects {
		of[pair[0]] = pair[1]
		old, _ := before.Object(pair[0])
		made, _ := w.Object(pair[1])
		if made.Place != 5 || made.Text != old.Text {
			t.Fatal(old, made)
		}
	}
	for i, pair := range ties {
		old, _ := before.Relation(pair[0])
		made, _ := w.Relation(pair[1])
		for j, o := range old.Objects {
			want := o
			if c, there := of[o]; there {
				want = c
			}
			if made.Objects[j] != want {
				t.Fatal(old, made)
			}
		}
		if pair[0] != relations[i] || made.Sort != old.Sort {
			t.Fatal(old, made)
		}
		w.Unrelate(pair[1])
	}
	if !slices.Equal(w.objects[:len(before.objects)], before.objects) || fmt.Sprint(w.ties) != fmt.Sprint(before.ties) {
		t.Fatal("what was there has changed")
	}
}
