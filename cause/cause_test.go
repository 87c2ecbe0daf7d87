package cause

import (
	"fmt"
	"reflect"
	"slices"
	"strconv"
	"strings"
	"testing"

	"intermede/api"
	"intermede/sample"
)

func text[T any](x T, e api.Errno) string {
	if e != api.OK {
		return fmt.Sprint("!", int(e))
	}
	return fmt.Sprint(x)
}

type step struct{ got, want string }

func steps(t *testing.T, l []step) {
	t.Helper()
	for i, s := range l {
		if s.got != s.want {
			t.Errorf("%d: %q instead of %q", i, s.got, s.want)
		}
	}
}

// acts reads a short form: the node, a letter for the kind, the number of the message or the call.
func acts(s string) []api.Act {
	var l []api.Act
	for _, word := range strings.Fields(s) {
		a := api.Act{Node: int(word[0] - '0'), Kind: strings.Index("?dsrbe", word[1:2]), Text: word}
		n, _ := strconv.Atoi(word[2:])
		if a.Kind == sends || a.Kind == receives {
			a.Message = n
		} else {
			a.Call = n
		}
		l = append(l, a)
	}
	return l
}

func wrong(n int, l []api.Act) string {
	at, e := Wrong(n, l)
	if Valid(n, l) != (e == api.OK) {
		return "Valid and Wrong differ"
	}
	return fmt.Sprint(at, " ", int(e))
}

func TestWrong(t *testing.T) {
	one := func(a api.Act) []api.Act { return []api.Act{a} }
	many := slices.Repeat(acts("0d"), 1001)
	early := slices.Clone(many)
	early[7].Kind = 9
	steps(t, []step{
		{wrong(1, nil), "-1 0"}, {wrong(16, nil), "-1 0"}, {wrong(0, nil), "0 7"}, {wrong(17, nil), "0 7"}, {wrong(-1, acts("9d")), "0 7"},
		{wrong(2, acts("0d 0s1 1d 1r1 0r1 1r1 0b1 0e1")), "-1 0"}, {wrong(2, acts("0d 2d")), "1 7"}, {wrong(2, one(api.Act{Node: -1, Kind: 1})), "0 7"}, {wrong(2, acts("0s0")), "0 7"}, {wrong(2, acts("0r0")), "0 7"}, {wrong(2, acts("0b0")), "0 7"}, {wrong(2, acts("0e0")), "0 7"}, {wrong(2, acts("0s-1")), "0 7"}, {wrong(2, one(api.Act{Kind: 1, Call: -1})), "0 7"}, {wrong(2, one(api.Act{Node: 2, Kind: 9})), "0 7"},
		{wrong(2, one(api.Act{})), "0 10"}, {wrong(2, one(api.Act{Kind: 6})), "0 10"}, {wrong(2, one(api.Act{Kind: -1})), "0 10"}, {wrong(2, one(api.Act{Kind: 1, Message: 1})), "0 10"}, {wrong(2, one(api.Act{Kind: 1, Call: 1})), "0 10"}, {wrong(2, one(api.Act{Kind: 2, Message: 1, Call: 1})), "0 10"}, {wrong(2, one(api.Act{Kind: 3, Message: 1, Call: 1})), "0 10"}, {wrong(2, one(api.Act{Kind: 4, Message: 1, Call: 1})), "0 10"}, {wrong(2, one(api.Act{Kind: 5, Message: 1, Call: 1})), "0 10"}, {wrong(2, one(api.Act{Kind: 1, Text: strings.Repeat("x", 33)})), "0 10"}, {wrong(2, one(api.Act{Kind: 1, Text: strings.Repeat("\xff", 32)})), "-1 0"},
		{wrong(2, acts("0s1 1s1")), "1 6"}, {wrong(2, acts("0b1 1b1")), "1 6"}, {wrong(2, acts("0b1 0e1 0e1")), "2 6"}, {wrong(2, acts("0b1 0e1 1e1")), "2 6"}, {wrong(2, acts("0b1 0e1 0b1")), "2 6"}, {wrong(2, acts("0b1 0s1")), "-1 0"},
		{wrong(2, acts("0r1 0s1")), "0 8"}, {wrong(2, acts("0e1 0b1")), "0 8"}, {wrong(2, acts("0b1 0e2")), "1 8"}, {wrong(2, acts("0b1 1e1")), "1 9"}, {wrong(2, acts("0s1 0r2")), "1 8"},
		{wrong(1, many), "1000 4"}, {wrong(1, many[:1000]), "-1 0"}, {wrong(1, early), "7 10"}, {wrong(1, append(many[:1000:1000], api.Act{Kind: 9})), "1000 4"},
	})
}

// example is the one of the chapter: what node 0 does, what it sends, what node 1 does, what it receives.
const example = "0d 0s1 1d 1r1"

func TestExample(t *testing.T) {
	l := acts(example)
	steps(t, []step{
		{text(Clocks(2, l)), "[[1 0] [2 0] [0 1] [2 2]]"}, {text(Heights(2, l)), "[1 2 1 3]"}, {text(Before(2, l, 0, 3)), "true"}, {text(Before(2, l, 3, 0)), "false"}, {text(Before(2, l, 0, 2)), "false"}, {text(Before(2, l, 0, 0)), "false"}, {text(Beside(2, l, 0)), "[2]"}, {text(Beside(2, l, 2)), "[0 1]"}, {text(Beside(2, l, 3)), "[]"}, {text(Past(2, l, 3)), "[0 1 2]"}, {text(Past(2, l, 0)), "[]"}, {text(Consistent(2, l, []int{0, 2})), "false"}, {text(Consistent(2, l, []int{2, 2})), "true"}, {text(Consistent(2, l, []int{1, 2})), "false"}, {text(Consistent(2, l, []int{0, 0})), "true"},
		{text(Before(2, l, 0, 4)), "!7"}, {text(Before(2, l, -1, 0)), "!7"}, {text(Before(1, l, 0, 4)), "!1"}, {text(Beside(2, l, 4)), "!7"}, {text(Beside(0, l, 4)), "!1"}, {text(Past(2, l, -1)), "!7"}, {text(Past(2, acts("0r1"), -1)), "!1"}, {text(Clocks(1, l)), "!1"}, {text(Heights(17, l)), "!1"}, {text(Clocks(3, nil)), "[]"},
	})
}

func TestWay(t *testing.T) {
	l := acts("0s1 0s2 1r1 2r2 1s3 2s4 3r4 3r3 0d")
	steps(t, []step{
		{text(Way(4, l, 0, 7)), "[0 2 4 7]"}, {text(Way(4, l, 0, 6)), "[0 1 3 5 6]"}, {text(Way(4, l, 6, 7)), "[6 7]"}, {text(Way(4, l, 1, 7)), "[1 3 5 6 7]"}, {text(Way(4, l, 3, 3)), "[3]"}, {text(Way(4, l, 7, 0)), "!8"}, {text(Way(4, l, 2, 3)), "!8"}, {text(Way(4, l, 0, 9)), "!7"}, {text(Way(3, l, 0, 9)), "!1"},
		// Two ways of the same length: the one with the least indexes.
		{text(Way(4, acts("0s1 1r1 2r1 2s2 1s3 3r2 3r3 3d"), 0, 6)), "[0 1 4 6]"}, {text(Way(4, acts("0s1 1r1 2r1 2s2 1d 1s3 3r2 3r3"), 0, 7)), "[0 1 4 5 7]"}, {text(Way(4, acts("0s1 2r1 1r1 2s2 1d 1s3 3r2 3r3"), 0, 7)), "[0 1 3 6 7]"},
		// A message that is received by its sender takes one step.
		{text(Way(1, acts("0s1 0d 0d 0r1"), 0, 3)), "[0 3]"}, {text(Way(1, acts("0s1 0r1"), 0, 1)), "[0 1]"},
	})
}

func TestCompare(t *testing.T) {
	two := func(a, b []int) string { return text(Compare(a, b)) + " " + text(Join(a, b)) }
	steps(t, []step{
		{two([]int{1, 2}, []int{1, 2}), "0 [1 2]"}, {two([]int{1, 2}, []int{1, 3}), "-1 [1 3]"}, {two([]int{2, 2}, []int{1, 2}), "1 [2 2]"}, {two([]int{1, 2}, []int{2, 1}), "2 [2 2]"}, {two(nil, nil), "!1 !1"}, {two([]int{1}, []int{1, 2}), "!1 !1"}, {two([]int{1}, nil), "!1 !1"}, {two([]int{-1}, []int{1}), "!1 !1"}, {two([]int{1}, []int{-1}), "!1 !1"}, {two(make([]int, 16), make([]int, 16)), "0 " + fmt.Sprint(make([]int, 16))}, {two(make([]int, 17), make([]int, 17)), "!1 !1"}, {two([]int{1 << 62}, []int{1<<62 + 1}), "-1 [" + strconv.Itoa(1<<62+1) + "]"},
	})
	a, b := []int{1, 2, 3}[:2], []int{2, 1}
	j, _ := Join(a, b)
	j = append(j, 9)
	j[0] = 9
	if a[0] != 1 || a[:3][2] != 3 || b[0] != 2 {
		t.Error("memory is shared")
	}
}

func TestCuts(t *testing.T) {
	l := acts("0d 0s1 1d 1r1 0s2 2r2 2r1")
	steps(t, []step{
		{text(Consistent(3, l, []int{2, 2, 0})), "true"}, {text(Consistent(3, l, []int{2, 0, 1})), "false"}, {text(Consistent(3, l, []int{3, 0, 2})), "true"}, {text(Consistent(3, l, []int{3, 0})), "!1"}, {text(Consistent(3, l, []int{4, 0, -1})), "!1"}, {text(Consistent(3, l, []int{4, 0, 0})), "!7"}, {text(Consistent(2, l, []int{4, 0})), "!1"},
		{text(Least(3, l, nil)), "[0 0 0]"}, {text(Least(3, l, []int{3})), "[2 2 0]"}, {text(Least(3, l, []int{2, 5, 2})), "[3 1 1]"}, {text(Least(3, l, []int{7})), "!7"}, {text(Least(3, l, []int{0, -1})), "!7"}, {text(Least(2, l, []int{-1})), "!1"},
		{text(Greatest(3, l, []int{1, 2, 2})), "[1 1 0]"}, {text(Greatest(3, l, []int{3, 2, 2})), "[3 2 2]"}, {text(Greatest(3, l, []int{0, 2, 2})), "[0 1 0]"}, {text(Greatest(3, l, []int{2, 2, 2})), "[2 2 0]"}, {text(Greatest(3, l, []int{2, 3, 2})), "!7"}, {text(Greatest(3, l, []int{2, 2})), "!1"},
		{text(Under(3, l, []int{3, 2, 0})), "[2]"}, {text(Under(3, l, []int{3, 0, 0})), "[1 2]"}, {text(Under(3, l, []int{3, 0, 2})), "[]"}, {text(Under(3, l, []int{0, 0, 0})), "[]"}, {text(Under(3, l, []int{0, 2, 0})), "!9"}, {text(Under(3, l, []int{0, 3, 0})), "!7"}, {text(Under(3, l, []int{0, 3, -1})), "!1"}, {text(Under(2, acts("0s9 0s3 0s5"), []int{3, 0})), "[3 5 9]"},
		{text(Cuts(1, nil)), "1"}, {text(Cuts(2, acts(example))), "7"}, {text(Cuts(1, acts("0d 0d"))), "3"}, {text(Cuts(2, acts("0d 1d"))), "4"}, {text(Cuts(1, slices.Repeat(acts("0d"), 60))), "61"}, {text(Cuts(1, slices.Repeat(acts("0d"), 61))), "!4"}, {text(Cuts(1, slices.Repeat(acts("0s1"), 61))), "!1"},
		// 10 to the fifth, and 10 to the fourth times 11.
		{text(Cuts(5, slices.Repeat(acts("0d 1d 2d 3d 4d"), 9))), "100000"}, {text(Cuts(5, append(slices.Repeat(acts("0d 1d 2d 3d 4d"), 9), acts("0d")...))), "!4"}, {text(Cuts(16, slices.Repeat(acts("0d 1d 2d 3d 4d 5d 6d 7d 8d 9d"), 6))), "!4"},
	})
}

func TestOrder(t *testing.T) {
	l := acts("0d 0s1 1d 1r1 2d")
	steps(t, []step{
		{text(Order(3, l, nil)), "[0 1 2 3 4]"}, {text(Order(3, l, []int{1, 1, 7})), "[2 4 0 1 3]"}, {text(Order(3, l, []int{2, 1})), "[4 2 0 1 3]"}, {text(Order(3, l, []int{5, 5, 5, 5, 5, 5, 5})), "[4 2 0 1 3]"}, {text(Order(3, l, []int{0, 0, 0, 0, 0, -1})), "!7"}, {text(Order(2, l, []int{-1})), "!1"}, {text(Order(1, nil, nil)), "[]"}, {text(Order(1, nil, []int{-1})), "!7"},
		// A message that its sender receives waits for nothing more.
		{text(Order(1, acts("0s1 0r1"), []int{1, 1})), "[0 1]"},
	})
}

func TestParents(t *testing.T) {
	both := func(n int, s string) string { return text(Parents(n, acts(s))) + " " + text(Tree(n, acts(s))) }
	steps(t, []step{
		{both(1, ""), "[] "}, {both(1, "0b2 0b1"), "[[1 2] [2 0]] 2 0b2\n  1 0b1\n"}, {both(1, "0b1 0b2 0e2 0b3 0e1 0b4"), "[[1 0] [2 1] [3 1] [4 3]] 1 0b1\n  2 0b2\n  3 0b3\n    4 0b4\n"}, {both(1, "0b1 0e1 0b2 0e2"), "[[1 0] [2 0]] 1 0b1\n2 0b2\n"}, {both(1, "0b1 0e1 0e2"), "!1 !1"}, {both(0, ""), "!1 !1"},
		// The beginning over a message is within; without one it is beside.
		{both(2, "0b5 0s1 1r1 1b3 1e3 1s2 0r2 0e5 1b4"), "[[3 5] [4 5] [5 0]] 5 0b5\n  3 1b3\n  4 1b4\n"}, {both(2, "0b5 1b3"), "[[3 0] [5 0]] 3 1b3\n5 0b5\n"}, {both(2, "0b5 0e5 0s1 1r1 1b3"), "[[3 0] [5 0]] 3 1b3\n5 0b5\n"}, {both(2, "0b5 0s1 0e5 1r1 1b3"), "[[3 5] [5 0]] 5 0b5\n  3 1b3\n"},
		// Of equal heights the greatest number.
		{both(3, "0b1 0s1 1b2 1s2 2r1 2r2 2b3"), "[[1 0] [2 0] [3 2]] 1 0b1\n2 1b2\n  3 2b3\n"}, {both(3, "0b2 0s1 1b1 1s2 2r1 2r2 2b3"), "[[1 0] [2 0] [3 2]] 1 1b1\n2 0b2\n  3 2b3\n"}, {both(3, "0b2 0s1 1d 1b1 1s2 2r1 2r2 2b3"), "[[1 0] [2 0] [3 1]] 1 1b1\n  3 2b3\n2 0b2\n"},
	})
}

func parsed(s string) string {
	n, l, line, e := Parse(s)
	if e != api.OK && (n != 0 || l != nil) || e == api.OK && Format(n, l) != s {
		return "not back"
	}
	return fmt.Sprint(n, " ", len(l), " ", line, " ", int(e))
}

func TestText(t *testing.T) {
	l := acts("0d 0s12 1r12 1b3 1e3")
	l[0].Text = "a\"b\\c\nd\x00\xff\r"
	l[1].Text = ""
	all := "nodes 2\n0 do \"a\\\"b\\\\c\\nd\x00\xff\r\"\n0 send 12 \"\"\n1 receive 12 \"1r12\"\n1 begin 3 \"1b3\"\n1 end 3 \"1e3\"\n"
	do, long := "0 do \"\"\n", strings.Repeat("x", 32)
	steps(t, []step{
		{Format(2, l), all}, {Format(3, nil), "nodes 3\n"}, {Format(1, l), ""}, {Format(0, nil), ""}, {parsed(all), "2 5 0 0"},
		{parsed(""), "0 0 0 2"}, {parsed("nodes 1"), "0 0 0 2"}, {parsed("nodes 1\n"), "1 0 0 0"}, {parsed("nodes 16\n"), "16 0 0 0"}, {parsed("nodes 17\n"), "0 0 0 2"}, {parsed("nodes 0\n"), "0 0 0 2"}, {parsed("nodes 01\n"), "0 0 0 2"}, {parsed("nodes +1\n"), "0 0 0 2"}, {parsed("nodes  1\n"), "0 0 0 2"}, {parsed("nodes 1 \n"), "0 0 0 2"}, {parsed("1\n"), "0 0 0 2"}, {parsed("\n"), "0 0 0 2"}, {parsed("nodes 1\n\n"), "0 0 1 2"},
		{parsed("nodes 1\n" + do + do), "1 2 0 0"}, {parsed("nodes 1\n" + do + do[:7]), "0 0 2 2"}, {parsed("nodes 1\n1 do \"\"\n"), "0 0 1 2"}, {parsed("nodes 1\n0 do\n"), "0 0 1 2"}, {parsed("nodes 1\n0 do \"\" \n"), "0 0 1 2"}, {parsed("nodes 1\n0  do \"\"\n"), "0 0 1 2"}, {parsed("nodes 1\n0 do 0 \"\"\n"), "0 0 1 2"}, {parsed("nodes 1\n0 say \"\"\n"), "0 0 1 2"}, {parsed("nodes 1\n0  \"\"\n"), "0 0 1 2"}, {parsed("nodes 1\n00 do \"\"\n"), "0 0 1 2"}, {parsed("nodes 1\n-0 do \"\"\n"), "0 0 1 2"}, {parsed("nodes 1\n0 do \"\n"), "0 0 1 2"}, {parsed("nodes 1\n0 do \"\"\"\n"), "0 0 1 2"}, {parsed("nodes 1\n0 do \"\\\"\n"), "0 0 1 2"}, {parsed("nodes 1\n0 do \"\\t\"\n"), "0 0 1 2"}, {parsed("nodes 1\n0 do \"\t\"\n"), "1 1 0 0"}, {parsed("nodes 1\n0 do \"a\"b\"\n"), "0 0 1 2"}, {parsed("nodes 1\n0 do \"" + long + "\"\n"), "1 1 0 0"}, {parsed("nodes 1\n0 do \"x" + long + "\"\n"), "0 0 1 2"},
		{parsed("nodes 1\n0 send 0 \"\"\n"), "0 0 1 2"}, {parsed("nodes 1\n0 send \"\"\n"), "0 0 1 2"}, {parsed("nodes 1\n0 send 01 \"\"\n"), "0 0 1 2"}, {parsed("nodes 1\n0 send -1 \"\"\n"), "0 0 1 2"}, {parsed("nodes 1\n0 send 9223372036854775807 \"\"\n"), "1 1 0 0"}, {parsed("nodes 1\n0 send 9223372036854775808 \"\"\n"), "0 0 1 2"}, {parsed("nodes 1\n0 receive 1 \"\"\n0 send 1 \"\"\n"), "0 0 1 2"}, {parsed("nodes 1\n0 send 1 \"\"\n0 send 1 \"\"\n"), "0 0 2 2"}, {parsed("nodes 1\n0 end 1 \"\"\n"), "0 0 1 2"}, {parsed("nodes 2\n0 begin 1 \"\"\n1 end 1 \"\"\n"), "0 0 2 2"},
		{parsed("nodes 1\n" + strings.Repeat(do, 1000)), "1 1000 0 0"}, {parsed("nodes 1\n" + strings.Repeat(do, 1001)), "0 0 1001 2"}, {parsed(strings.Repeat("x", api.MaxText)), "0 0 0 2"}, {parsed(strings.Repeat("x", api.MaxText+1)), "0 0 0 3"},
	})
}

// history returns a right history of few nodes.
func anyHistory(r *sample.Source, n, events int) []api.Act {
	k := newChecker(n)
	var l []api.Act
	for len(l) < events {
		a := api.Act{Node: r.Int(n), Kind: 1 + r.Int(5), Text: r.Text("a\"\\\n ", 3)}
		switch a.Kind {
		case sends, receives:
			a.Message = 1 + r.Int(events)
		case begins, ends:
			a.Call = 1 + r.Int(events)
		}
		if k.add(a) == api.OK {
			l = append(l, a)
		}
	}
	return l
}

// closed tells what is before what by going from step to step.
func closed(l []api.Act) [][]bool {
	before := make([][]bool, len(l))
	for b := range l {
		before[b] = make([]bool, len(l))
		for a := range b {
			direct := l[a].Node == l[b].Node || l[a].Kind == sends && l[b].Kind == receives && l[a].Message == l[b].Message
			if direct {
				before[b][a] = true
				for c := range a {
					before[b][c] = before[b][c] || before[a][c]
				}
			}
		}
	}
	return before
}

func TestBefore(t *testing.T) {
	r := sample.New(29)
	for range 300 {
		n := 1 + r.Int(4)
		l := anyHistory(r, n, r.Int(14))
		before := closed(l)
		clocks, _ := Clocks(n, l)
		heights, _ := Heights(n, l)
		for a := range l {
			past, _ := Past(n, l, a)
			beside, _ := Beside(n, l, a)
			for b := range l {
				is, e := Before(n, l, b, a)
				c, e2 := Compare(clocks[b], clocks[a])
				way, e3 := Way(n, l, b, a)
				if e != api.OK || e2 != api.OK || is != before[a][b] || is != (c == -1) || is != slices.Contains(past, b) || (e3 == api.OK) != (is || a == b) {
					t.Fatal(a, b, l)
				}
				if slices.Contains(beside, b) != (c == 2) || (c == 0) != (a == b) || is && heights[b] >= heights[a] {
					t.Fatal(a, b, l)
				}
				for i := 1; i < len(way); i++ {
					if !before[way[i]][way[i-1]] {
						t.Fatal("no way", way, l)
					}
				}
			}
		}
	}
}

// allCuts returns all cuts of a history.
func allCuts(n int, l []api.Act) [][]int {
	events := make([]int, n)
	for _, a := range l {
		events[a.Node]++
	}
	cuts := [][]int{nil}
	for _, most := range events {
		var more [][]int
		for _, cut := range cuts {
			for i := range most + 1 {
				more = append(more, append(slices.Clone(cut), i))
			}
		}
		cuts = more
	}
	return cuts
}

func has(l []api.Act, cut []int) []bool {
	left, in := slices.Clone(cut), make([]bool, len(l))
	for i, a := range l {
		left[a.Node]--
		in[i] = left[a.Node] >= 0
	}
	return in
}

func TestPromiseCuts(t *testing.T) {
	r := sample.New(290)
	for range 100 {
		n := 1 + r.Int(3)
		l := anyHistory(r, n, r.Int(11))
		before := closed(l)
		var good [][]int
		for _, cut := range allCuts(n, l) {
			in, want := has(l, cut), true
			for b := range l {
				for a := range b {
					want = want && (!in[b] || !before[b][a] || in[a])
				}
			}
			if is, e := Consistent(n, l, cut); e != api.OK || is != want {
				t.Fatal(cut, is, l)
			}
			if want {
				good = append(good, cut)
			}
		}
		if all, e := Cuts(n, l); e != api.OK || all != len(good) {
			t.Fatal(all, len(good), l)
		}
		for range 10 {
			a, b := good[r.Int(len(good))], good[r.Int(len(good))]
			up, _ := Join(a, b)
			down := slices.Clone(a)
			for i := range down {
				down[i] = min(down[i], b[i])
			}
			upIs, _ := Consistent(n, l, up)
			downIs, _ := Consistent(n, l, down)
			if !upIs || !downIs {
				t.Fatal("no lattice", a, b)
			}
			cuts := allCuts(n, l)
			cut := cuts[r.Int(len(cuts))]
			most, _ := Greatest(n, l, cut)
			for _, g := range good {
				if isWithin(g, cut) != isWithin(g, most) {
					t.Fatal("not the greatest", cut, most, g)
				}
			}
			if is, _ := Consistent(n, l, most); !is || !isWithin(most, cut) {
				t.Fatal("not within", cut, most)
			}
			if len(l) == 0 {
				continue
			}
			events := []int{r.Int(len(l)), r.Int(len(l))}
			least, _ := Least(n, l, events)
			for _, g := range good {
				in := has(l, g)
				c, _ := Compare(least, g)
				if (in[events[0]] && in[events[1]]) != (c == -1 || c == 0) {
					t.Fatal("not the least", events, least, g)
				}
			}
		}
	}
}

func TestAnyOrder(t *testing.T) {
	r := sample.New(291)
	for range 300 {
		n := 1 + r.Int(4)
		l := anyHistory(r, n, r.Int(16))
		var turns []int
		for range r.Int(16) {
			turns = append(turns, r.Int(5))
		}
		order, e := Order(n, l, turns)
		if e != api.OK || len(order) != len(l) {
			t.Fatal(e, order)
		}
		var moved []api.Act
		cut := make([]int, n)
		for _, i := range order {
			moved = append(moved, l[i])
			cut[l[i].Node]++
			if is, _ := Consistent(n, l, cut); !is {
				t.Fatal("no beginning", order, l)
			}
		}
		clocks, _ := Clocks(n, l)
		heights, _ := Heights(n, l)
		clocks2, e := Clocks(n, moved)
		heights2, _ := Heights(n, moved)
		for at, i := range order {
			if e != api.OK || !slices.Equal(clocks[i], clocks2[at]) || heights[i] != heights2[at] {
				t.Fatal("not the same", order, l)
			}
		}
		if text(Parents(n, l)) != text(Parents(n, moved)) || text(Tree(n, l)) != text(Tree(n, moved)) {
			t.Fatal("other parents", order, l)
		}
		n2, back, _, e := Parse(Format(n, l))
		if e != api.OK || n2 != n || len(l) > 0 && !reflect.DeepEqual(back, l) {
			t.Fatal(e, l, back)
		}
	}
}

func TestLarge(t *testing.T) {
	r := sample.New(292)
	l := anyHistory(r, 16, 1000)
	order, e := Order(16, l, []int{3, 1, 4, 1, 5})
	if e != api.OK || len(order) != 1000 {
		t.Error(e)
	}
	pairs, e := Parents(16, l)
	if e != api.OK || len(pairs) == 0 {
		t.Error(e)
	}
	clocks, _ := Clocks(16, l)
	clocks[0][0], clocks[1][0] = 7, 8
	if again, _ := Clocks(16, l); again[0][0] == 7 || clocks[0][0] != 7 {
		t.Error("memory is shared")
	}
}
