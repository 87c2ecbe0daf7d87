package txn

import (
	"fmt"
	"reflect"
	"slices"
	"strconv"
	"strings"
	"testing"

	"intermede/api"
	"intermede/sample"
)

func text[T any](x T, e api.Errno) string {
	if e != api.OK {
		return fmt.Sprint("!", int(e))
	}
	return fmt.Sprint(x)
}

func told(e api.Errno) string { return text("", e) }

type step struct{ got, want string }

func steps(t *testing.T, l []step) {
	t.Helper()
	for i, s := range l {
		if s.got != s.want {
			t.Errorf("%d: %q instead of %q", i, s.got, s.want)
		}
	}
}

// made returns a manager with a transaction, resources and synchronisations (behind a bar).
func made(names string) *Manager {
	m := New()
	m.Begin(0)
	resources, watchers, _ := strings.Cut(names, "|")
	for _, name := range strings.Fields(resources) {
		m.Enlist(1, name)
	}
	for _, name := range strings.Fields(watchers) {
		m.Watch(1, name)
	}
	return m
}

func show(o api.Order) string {
	words := [...]string{before: "before", prepare: "prepare", commit: "commit", rollBack: "back", one: "one", forget: "forget", after: "after"}
	return fmt.Sprint(words[o.Kind], " ", o.Txn, o.Name)
}

// run tells answers, in the order in which orders come, and 1 where none is left; it shows what came.
func run(m *Manager, answers ...int) string {
	var l []string
	for {
		o, e := m.Next()
		if e != api.OK {
			return strings.Join(l, ", ")
		}
		answer := 1
		if len(answers) > 0 {
			answer, answers = answers[0], answers[1:]
		}
		l = append(l, show(o))
		if e := m.Tell(answer); e != api.OK {
			return fmt.Sprint(l, " !", int(e))
		}
	}
}

func state(m *Manager, n int) string { return text(m.State(n)) }

func ending(m *Manager, n int) string {
	x, e := m.Ending(n)
	s := ""
	for _, c := range []struct {
		is   bool
		word string
	}{{x.Committed, "committed"}, {x.Mixed, "mixed"}, {x.Hazard, "hazard"}} {
		if c.is {
			s += c.word + " "
		}
	}
	return text(strings.TrimSpace(s+strings.Join(x.Doubt, " ")), e)
}

func log(m *Manager) string { return strings.Join(m.Log(), "; ") }

func TestBegin(t *testing.T) {
	m := New()
	steps(t, []step{
		{text(m.Begin(0)), "1"}, {text(m.Begin(1)), "2"}, {text(m.Begin(3)), "!8"}, {text(m.Begin(-1)), "!8"}, {told(m.Mark(2)), ""}, {text(m.Begin(2)), "!9"}, {told(m.Mark(2)), ""}, {state(m, 2), "2"}, {state(m, 3), "!8"}, {told(m.Mark(3)), "!8"},
		{told(m.Enlist(1, "a")), ""}, {told(m.Enlist(1, "a")), "!6"}, {told(m.Watch(1, "a")), ""}, {told(m.Watch(1, "a")), "!6"}, {told(m.Enlist(1, "A")), "!1"}, {told(m.Enlist(9, "")), "!1"}, {told(m.Watch(9, "1a")), "!1"}, {told(m.Enlist(1, strings.Repeat("a", 33))), "!1"}, {told(m.Enlist(1, "a_b")), "!1"}, {told(m.Enlist(9, "a")), "!8"}, {told(m.Watch(9, "a")), "!8"}, {told(m.Enlist(2, "a")), "!9"}, {told(m.Watch(2, "a")), "!9"}, {told(m.Enlist(1, "b2")), ""}, {text(m.Resources(1)), "[a b2]"}, {text(m.Resources(9)), "!8"}, {text(m.Resources(2)), "[]"},
	})
	for i := range 18 {
		m.Enlist(1, "c"+strconv.Itoa(i))
		m.Watch(1, "c"+strconv.Itoa(i))
	}
	steps(t, []step{{told(m.Enlist(1, "a")), "!6"}, {told(m.Enlist(1, "x")), "!4"}, {told(m.Watch(1, "x")), ""}, {told(m.Watch(1, "y")), "!4"}})
	for range maxTxns - 2 {
		m.Begin(0)
	}
	steps(t, []step{{text(m.Begin(0)), "!4"}, {text(m.Begin(2)), "!9"}, {text(m.Begin(61)), "!8"}})
}

func TestCommit(t *testing.T) {
	for i, c := range []struct {
		names   string
		answers []int
		orders  string
		state   string
		ending  string
		log     string
	}{
		{"a b", nil, "prepare 1a, prepare 1b, commit 1a, commit 1b", "6", "committed", "commit 1 a b; end 1"},
		{"", nil, "", "6", "committed", ""},
		{"|x y", nil, "before 1x, before 1y, after 1x, after 1y", "6", "committed", ""},
		{"a|x", nil, "before 1x, one 1a, after 1x", "6", "committed", ""},
		{"a b|x", nil, "before 1x, prepare 1a, prepare 1b, commit 1a, commit 1b, after 1x", "6", "committed", "commit 1 a b; end 1"},
		{"a b|x y", []int{2}, "before 1x, back 1a, back 1b, after 1x, after 1y", "7", "", ""},
		{"a|x", []int{2}, "before 1x, back 1a, after 1x", "7", "", ""},
		{"a b c", []int{1, 2}, "prepare 1a, prepare 1b, back 1a, back 1c", "7", "", ""},
		{"a b c", []int{1, 4}, "prepare 1a, prepare 1b, back 1a, back 1b, back 1c", "7", "", ""},
		{"a b c", []int{3, 2}, "prepare 1a, prepare 1b, back 1c", "7", "", ""},
		{"a b c", []int{3, 1, 1}, "prepare 1a, prepare 1b, prepare 1c, commit 1b, commit 1c", "6", "committed", "commit 1 b c; end 1"},
		{"a b", []int{3, 3}, "prepare 1a, prepare 1b", "6", "committed", ""},
		{"a b", []int{1, 3}, "prepare 1a, prepare 1b, commit 1a", "6", "committed", "commit 1 a; end 1"},
		{"a b c", []int{1, 1, 1, 2, 3, 4}, "prepare 1a, prepare 1b, prepare 1c, commit 1a, commit 1b, commit 1c, forget 1a, forget 1b, forget 1c", "6", "committed mixed hazard", "commit 1 a b c; end 1"},
		{"a b", []int{1, 1, 4}, "prepare 1a, prepare 1b, commit 1a, commit 1b, forget 1a", "6", "committed hazard", "commit 1 a b; end 1"},
		{"a b c", []int{1, 1, 2, 2, 3, 1}, "prepare 1a, prepare 1b, prepare 1c, back 1a, back 1b, forget 1a, forget 1b", "7", "mixed", ""},
		{"a b c", []int{1, 1, 2, 4}, "prepare 1a, prepare 1b, prepare 1c, back 1a, back 1b, forget 1a", "7", "hazard", ""},
		{"a b c", []int{1, 1, 1, 5, 1, 5, 5, 1}, "prepare 1a, prepare 1b, prepare 1c, commit 1a, commit 1b, commit 1c, commit 1a, commit 1c, commit 1a", "6", "committed", "commit 1 a b c; end 1"},
		{"a b", []int{1, 1, 2, 3, 2, 2, 1}, "prepare 1a, prepare 1b, commit 1a, commit 1b, forget 1a, forget 1b, forget 1a, forget 1b", "6", "committed mixed", "commit 1 a b; end 1"},
		{"a", []int{2}, "one 1a, forget 1a", "7", "", ""},
		{"a", []int{3}, "one 1a, forget 1a", "6", "committed mixed", ""},
		{"a", []int{4}, "one 1a, forget 1a", "6", "committed hazard", ""},
		{"a", []int{5}, "one 1a", "6", "committed hazard", ""},
	} {
		m := made(c.names)
		if e := m.Commit(1); e != api.OK {
			t.Fatal(i, e)
		}
		got := []string{run(m, c.answers...), state(m, 1), ending(m, 1), log(m)}
		if want := []string{c.orders, c.state, c.ending, c.log}; !slices.Equal(got, want) {
			t.Errorf("%d: %q instead of %q", i, got, want)
		}
	}
}

func TestStates(t *testing.T) {
	m := made("a b|x")
	next := func() string {
		o, e := m.Next()
		return text(show(o), e)
	}
	steps(t, []step{
		{told(m.Tell(1)), "!8"}, {state(m, 1), "1"}, {ending(m, 1), "!9"}, {ending(m, 2), "!8"}, {told(m.Commit(2)), "!8"}, {told(m.Rollback(2)), "!8"}, {text(0, m.Commit(1)), "0"}, {state(m, 1), "3"}, {told(m.Commit(1)), "!9"}, {told(m.Rollback(1)), "!9"}, {told(m.Mark(1)), "!9"}, {told(m.Enlist(1, "c")), "!9"}, {told(m.Watch(1, "c")), "!9"}, {text(m.Begin(1)), "!9"},
		{told(m.Tell(1)), "!9"}, {next(), "before 1x"}, {next(), "before 1x"}, {told(m.Tell(0)), "!7"}, {told(m.Tell(3)), "!7"}, {told(m.Tell(1)), ""}, {told(m.Tell(1)), "!9"}, {next(), "prepare 1a"}, {told(m.Tell(5)), "!7"}, {told(m.Tell(1)), ""}, {next(), "prepare 1b"}, {fmt.Sprint(m.Ask(1)), "0"}, {log(m), ""}, {told(m.Tell(1)), ""}, {state(m, 1), "4"}, {log(m), "commit 1 a b"}, {fmt.Sprint(m.Ask(1)), "1"},
		{next(), "commit 1a"}, {told(m.Tell(6)), "!7"}, {told(m.Tell(-1)), "!7"}, {told(m.Tell(2)), ""}, {next(), "commit 1b"}, {told(m.Tell(1)), ""}, {next(), "forget 1a"}, {state(m, 1), "4"}, {ending(m, 1), "!9"}, {told(m.Tell(3)), "!7"}, {told(m.Tell(1)), ""}, {log(m), "commit 1 a b; end 1"}, {state(m, 1), "6"}, {ending(m, 1), "committed mixed"}, {next(), "after 1x"}, {told(m.Tell(2)), "!7"}, {told(m.Tell(1)), ""}, {next(), "!8"}, {told(m.Tell(1)), "!8"}, {fmt.Sprint(m.Ask(1)), "1"}, {told(m.Commit(1)), "!9"}, {text(m.Resources(1)), "[a b]"},
	})
	m = made("a")
	steps(t, []step{{text(0, m.Mark(1)), "0"}, {told(m.Commit(1)), ""}, {state(m, 1), "5"}, {fmt.Sprint(m.Ask(1)), "2"}, {run(m), "back 1a"}, {state(m, 1), "7"}, {fmt.Sprint(m.Ask(1), m.Ask(2), m.Ask(0)), "2 2 2"}, {told(m.Mark(1)), "!9"}})
	m = made("a|x")
	m.Mark(1)
	steps(t, []step{{told(m.Rollback(1)), ""}, {run(m), "back 1a, after 1x"}, {state(m, 1), "7"}, {ending(m, 1), ""}})
	m = made("a")
	if e := m.Commit(1); e != api.OK || m.Commit(1) != api.ErrState {
		t.Error("one order")
	}
	if _, e := m.Next(); e != api.OK || m.Tell(6) != api.ErrRange || m.Tell(5) != api.OK {
		t.Error("silence of one")
	}
}

func TestDoubt(t *testing.T) {
	m := made("a b")
	m.Commit(1)
	answers := []int{1, 1}
	for range 20 {
		answers = append(answers, 5, 5)
	}
	got := run(m, answers...)
	if want := "prepare 1a, prepare 1b" + strings.Repeat(", commit 1a, commit 1b", 20); got != want {
		t.Error(got)
	}
	steps(t, []step{{ending(m, 1), "committed a b"}, {log(m), "commit 1 a b"}})
	m = made("a b")
	m.Rollback(1)
	answers = []int{2, 1}
	for range 20 {
		answers = append(answers, 2)
	}
	if got, want := run(m, answers...), "back 1a, back 1b"+strings.Repeat(", forget 1a", 20); got != want {
		t.Error(got)
	}
	steps(t, []step{{ending(m, 1), "mixed a"}})
	m = made("a b")
	m.Commit(1)
	answers = []int{1, 1}
	for range 19 {
		answers = append(answers, 5, 5)
	}
	run(m, append(answers, 1, 4, 1)...)
	steps(t, []step{{ending(m, 1), "committed hazard"}, {log(m), "commit 1 a b; end 1"}})
}

func TestNested(t *testing.T) {
	m := made("a|x")
	for _, parent := range []int{1, 1, 2, 2} {
		m.Begin(parent)
	}
	m.Enlist(2, "b")
	m.Enlist(2, "a")
	m.Watch(2, "y")
	m.Watch(2, "x")
	m.Enlist(3, "c")
	m.Enlist(4, "d")
	m.Enlist(5, "e")
	steps(t, []step{
		{told(m.Commit(1)), "!9"}, {told(m.Commit(2)), "!9"}, {told(m.Commit(4)), ""}, {state(m, 4), "6"}, {text(m.Resources(2)), "[b a d]"}, {text(m.Resources(4)), "[d]"}, {ending(m, 4), "!9"}, {fmt.Sprint(m.Ask(4)), "0"}, {told(m.Rollback(5)), ""}, {told(m.Commit(2)), ""}, {text(m.Resources(1)), "[a b d]"}, {told(m.Commit(1)), "!9"}, {told(m.Rollback(3)), ""}, {told(m.Commit(1)), ""},
		{run(m), "back 5e, back 3c, before 1x, before 1y, prepare 1a, prepare 1b, prepare 1d, commit 1a, commit 1b, commit 1d, after 1x, after 1y"}, {state(m, 2), "6"}, {state(m, 4), "6"}, {state(m, 5), "7"}, {state(m, 3), "7"}, {fmt.Sprint(m.Ask(4)), "1"}, {ending(m, 3), "!9"},
	})
	m = made("a")
	for _, parent := range []int{1, 2, 2, 1, 1} {
		m.Begin(parent)
	}
	for n, name := range []string{"a", "b", "c", "d", "e"} {
		m.Enlist(n+2, name)
	}
	m.Watch(3, "x")
	steps(t, []step{
		{told(m.Commit(6)), ""}, {told(m.Mark(4)), ""}, {told(m.Rollback(1)), ""}, {state(m, 6), "6"}, {fmt.Sprint(m.Ask(6)), "2"}, {run(m), "back 5d, back 4c, back 3b, after 3x, back 2a, back 1a, back 1e"}, {state(m, 6), "7"}, {fmt.Sprint(m.Ask(6)), "2"}, {state(m, 3), "7"}, {text(m.Resources(6)), "[e]"},
	})
	m = made("a")
	m.Begin(1)
	m.Mark(2)
	m.Enlist(1, "b")
	steps(t, []step{{told(m.Commit(1)), "!9"}, {told(m.Commit(2)), ""}, {state(m, 2), "7"}, {told(m.Commit(1)), ""}, {run(m), "prepare 1a, prepare 1b, commit 1a, commit 1b"}})
	m = made("")
	m.Begin(1)
	for i := range 15 {
		m.Enlist(1, "a"+strconv.Itoa(i))
		m.Enlist(2, "b"+strconv.Itoa(i))
	}
	steps(t, []step{{told(m.Commit(2)), "!4"}, {state(m, 2), "1"}, {told(m.Rollback(2)), ""}, {told(m.Commit(1)), ""}})
}

func TestQueue(t *testing.T) {
	m := made("a b")
	m.Begin(0)
	m.Enlist(2, "a")
	m.Begin(0)
	steps(t, []step{{told(m.Rollback(2)), ""}, {told(m.Commit(1)), ""}, {told(m.Commit(3)), ""}, {state(m, 3), "3"}, {run(m), "back 2a, prepare 1a, prepare 1b, commit 1a, commit 1b"}, {state(m, 3), "6"}})
}

func recovered(l ...string) string {
	m, i, e := Recover(l)
	if e != api.OK {
		if m != nil {
			return "a manager with an error"
		}
		return fmt.Sprint("!", int(e), " ", i)
	}
	return fmt.Sprint(i, " ", run(m), " ", log(m))
}

func TestRecover(t *testing.T) {
	names := " a"
	for i := range 19 {
		names += " b" + strconv.Itoa(i)
	}
	steps(t, []step{
		{recovered(), "0  "}, {recovered("commit 1 a b"), "0 commit 1a, commit 1b commit 1 a b; end 1"}, {recovered("commit 1 a b", "end 1"), "0  commit 1 a b; end 1"}, {recovered("commit 2 a", "commit 1 b", "end 2", "commit 3 c"), "0 commit 1b, commit 3c commit 2 a; commit 1 b; end 2; commit 3 c; end 1; end 3"},
		{recovered(""), "!2 0"}, {recovered("commit 1 a", "commit 2"), "!2 1"}, {recovered("commit 1 a", "commit 1 b"), "!2 1"}, {recovered("commit 1 a", "end 1", "commit 1 a"), "!2 2"}, {recovered("commit 1 a", "end 1", "end 1"), "!2 2"}, {recovered("end 1"), "!2 0"}, {recovered("commit 1 a", "end 2"), "!2 1"}, {recovered("commit 1 a", "end"), "!2 1"}, {recovered("commit 1 a", "end 1 "), "!2 1"}, {recovered("commit 1 a a"), "!2 0"}, {recovered("commit 1 A"), "!2 0"}, {recovered("commit  1 a"), "!2 0"}, {recovered("commit 01 a"), "!2 0"}, {recovered("commit +1 a"), "!2 0"}, {recovered("commit 0 a"), "!2 0"}, {recovered("commit -1 a"), "!2 0"}, {recovered("commit x a"), "!2 0"}, {recovered("commit 1 a "), "!2 0"}, {recovered(" commit 1 a"), "!2 0"}, {recovered("abort 1 a"), "!2 0"}, {recovered("commit 99999999999999999999 a"), "!2 0"}, {recovered("commit 1" + names + " c"), "!2 0"}, {recovered("commit 1"+names, "end 1"), "0  commit 1" + names + "; end 1"},
	})
	m, _, _ := Recover([]string{"commit 4 a b", "commit 2 c", "end 4"})
	steps(t, []step{
		{state(m, 4), "6"}, {state(m, 2), "4"}, {state(m, 1), "!8"}, {text(m.Resources(4)), "[a b]"}, {ending(m, 4), "committed"}, {ending(m, 2), "!9"}, {fmt.Sprint(m.Ask(1), m.Ask(2), m.Ask(3), m.Ask(4)), "2 1 2 1"}, {text(m.Begin(0)), "5"}, {text(m.Begin(4)), "!9"}, {told(m.Enlist(4, "x")), "!9"}, {told(m.Enlist(5, "x")), ""}, {told(m.Commit(5)), ""}, {run(m, 2), "commit 2c, forget 2c, one 5x"}, {ending(m, 2), "committed mixed"}, {log(m), "commit 4 a b; commit 2 c; end 4; end 2"},
	})
	m, _, _ = Recover([]string{"commit 9223372036854775807 a"})
	steps(t, []step{{text(m.Begin(0)), "!4"}})
}

// TestTwice recovers each beginning of a log, and what comes of that.
func TestTwice(t *testing.T) {
	r := sample.New(27)
	for range 100 {
		m := New()
		for range 6 {
			n, _ := m.Begin(0)
			for i := range r.Int(4) {
				m.Enlist(n, string(rune('a'+i)))
			}
			m.Commit(n)
		}
		var answers []int
		for range 60 {
			answers = append(answers, 1+r.Int(3))
		}
		run(m, answers...)
		l := m.Log()
		for i := range len(l) + 1 {
			first, _, e := Recover(l[:i])
			if e != api.OK {
				t.Fatal(l[:i], e)
			}
			second, _, e := Recover(first.Log())
			if e != api.OK || !reflect.DeepEqual(first.Log(), second.Log()) || run(first) != run(second) || !reflect.DeepEqual(first.Log(), second.Log()) {
				t.Fatal(l[:i], e)
			}
			for n := range 8 {
				if state(first, n) != state(second, n) || first.Ask(n) != second.Ask(n) {
					t.Fatal(l[:i], n)
				}
			}
		}
	}
}

// TestOneWay asks what orders stand beside a line, and whether all that was told is in the ending.
func TestOneWay(t *testing.T) {
	r := sample.New(270)
	for range 2000 {
		m := made("")
		for i := range r.Int(5) {
			m.Enlist(1, string(rune('a'+i)))
		}
		if m.Commit(1) != api.OK {
			t.Fatal("commit")
		}
		isMixed, isHazard := false, false
		forgets := map[string]bool{}
		for {
			o, e := m.Next()
			if e != api.OK {
				break
			}
			line := len(m.Log()) > 0
			if o.Kind == rollBack && line || o.Kind == commit && !line {
				t.Fatal(o, m.Log())
			}
			most := [...]int{prepare: 4, commit: 5, rollBack: 5, one: 5, forget: 2}[o.Kind]
			answer := 1 + r.Int(most)
			if m.Tell(answer) != api.OK {
				t.Fatal(o, answer)
			}
			switch {
			case o.Kind == forget:
				delete(forgets, o.Name)
			case o.Kind == commit || o.Kind == rollBack || o.Kind == one:
				isMixed = isMixed || answer == 3 || answer == 2 && o.Kind != one
				isHazard = isHazard || answer == 4 || answer == 5 && o.Kind == one
				forgets[o.Name] = answer >= 2 && answer <= 4
			}
		}
		x, e := m.Ending(1)
		if e != api.OK || x.Mixed != isMixed || x.Hazard != isHazard {
			t.Fatal(x, isMixed, isHazard)
		}
		for name, is := range forgets {
			if is {
				t.Fatal(name)
			}
		}
	}
}

func TestNil(t *testing.T) {
	var m *Manager
	var w *World
	_, e := m.Next()
	steps(t, []step{
		{text(m.Begin(0)), "!1"}, {told(m.Enlist(1, "a")), "!1"}, {told(m.Watch(1, "a")), "!1"}, {told(m.Mark(1)), "!1"}, {told(m.Commit(1)), "!1"}, {told(m.Rollback(1)), "!1"}, {told(e), "!1"}, {told(m.Tell(1)), "!1"}, {state(m, 1), "!1"}, {ending(m, 1), "!1"}, {text(m.Resources(1)), "!1"}, {log(m), ""}, {fmt.Sprint(m.Ask(1)), "0"},
		{told(w.Do(api.Deed{Kind: 1})), "!1"}, {fmt.Sprint(w.Values(), w.Locked()), "[] []"}, {told((&World{}).Do(api.Deed{Kind: 1})), "!1"}, {text((&Manager{}).Begin(0)), "1"},
	})
}
