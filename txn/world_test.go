package txn

import (
	"fmt"
	"slices"
	"strings"
	"testing"

	"intermede/api"
	"intermede/sample"
)

func begin() api.Deed { return api.Deed{Kind: 1} }

func write(n int, name string, x int) api.Deed { return api.Deed{Kind: 2, Txn: n, Name: name, N: x} }

func add(n int, name string, x int) api.Deed { return api.Deed{Kind: 3, Txn: n, Name: name, N: x} }

func end(n int) api.Deed { return api.Deed{Kind: 4, Txn: n} }

func back(n int) api.Deed { return api.Deed{Kind: 5, Txn: n} }

// do does deeds, and tells the first error.
func do(w *World, l ...api.Deed) string {
	for _, a := range l {
		if e := w.Do(a); e != api.OK {
			return told(e)
		}
	}
	return ""
}

func all(w *World) string { return fmt.Sprint(w.Values(), w.Locked()) }

func world(t *testing.T, names string) *World {
	t.Helper()
	w, e := NewWorld(strings.Fields(names))
	if e != api.OK {
		t.Fatal(e)
	}
	return w
}

func TestNewWorld(t *testing.T) {
	for names, want := range map[string]api.Errno{"": 1, "a": 0, "a b c d e f g h": 0, "a b c d e f g h i": 1, "a b a": 1, "a A": 1} {
		if _, e := NewWorld(strings.Fields(names)); e != want {
			t.Error(names, e)
		}
	}
}

func TestWorld(t *testing.T) {
	w := world(t, "a b")
	steps(t, []step{
		{all(w), "[0 0] []"}, {do(w, write(1, "a", 1)), "!8"}, {do(w, begin(), begin()), ""}, {do(w, write(1, "a", 5)), ""}, {all(w), "[0 0] [a]"}, {do(w, write(2, "a", 1)), "!9"}, {do(w, add(2, "a", 1)), "!9"}, {do(w, add(1, "a", 2), add(1, "b", -3)), ""}, {all(w), "[0 0] [a b]"}, {do(w, end(1)), ""}, {all(w), "[7 -3] []"}, {do(w, write(1, "a", 1)), "!8"}, {do(w, end(1)), "!9"}, {do(w, back(1)), "!9"},
		{do(w, add(2, "a", 1)), ""}, {do(w, back(2)), ""}, {all(w), "[7 -3] []"}, {do(w, begin(), add(3, "a", 994), end(3)), ""}, {all(w), "[7 -3] []"}, {do(w, begin(), add(4, "a", 993), add(4, "b", -998), end(4)), ""}, {all(w), "[7 -3] []"}, {do(w, begin(), add(5, "a", 993), add(5, "b", -997), end(5)), ""}, {all(w), "[1000 -1000] []"}, {do(w, begin(), end(6)), ""},
		{do(w, begin(), write(7, "a", 1000001)), "!1"}, {do(w, write(7, "a", -1000001)), "!1"}, {do(w, write(7, "a", 1000000)), ""}, {do(w, add(7, "a", -1000000)), ""}, {do(w, end(7)), ""}, {all(w), "[0 -1000] []"}, {do(w, api.Deed{Kind: 1, N: 1000001}), "!1"}, {do(w, api.Deed{}), "!1"}, {do(w, api.Deed{Kind: 6}), "!1"}, {do(w, begin(), write(8, "c", 1)), "!8"}, {do(w, write(8, "C", 1)), "!1"}, {do(w, write(99, "", 1)), "!1"}, {do(w, end(99)), "!8"}, {do(w, back(99)), "!8"},
	})
	for range maxTxns - 8 {
		w.Do(begin())
	}
	steps(t, []step{{do(w, begin()), "!4"}, {do(w, write(60, "a", 1), end(60)), ""}})
}

func play(names string, falls []int, deeds ...api.Deed) string {
	values, states, e := Play(strings.Fields(names), deeds, falls)
	return text(fmt.Sprint(values, states), e)
}

func TestPlay(t *testing.T) {
	two := []api.Deed{begin(), write(1, "a", 1), write(1, "b", 2), end(1)}
	// The moments of prepare a are 0 to 2, those of prepare b 3 to 5: behind its answer the line stands.
	for fall := range 14 {
		want := "[1 2] [6]"
		if fall < 5 {
			want = "[0 0] [7]"
		}
		if got := play("a b", []int{fall}, two...); got != want {
			t.Errorf("%d: %s", fall, got)
		}
	}
	single := []api.Deed{begin(), write(1, "a", 1), end(1)}
	steps(t, []step{
		{play("a", nil, single...), "[1] [6]"}, {play("a", []int{0}, single...), "[0] [7]"}, {play("a", []int{1}, single...), "[1] [6]"}, {play("a", []int{2}, single...), "[1] [6]"},
		{play("a", nil), "[0] []"}, {play("a", nil, begin(), begin(), write(1, "a", 3), end(2)), "[0] [7 6]"}, {play("a", nil, begin(), write(1, "a", 1001), end(1)), "[0] [7]"}, {play("a", []int{0}, begin(), begin(), end(1), write(2, "a", 1), end(2), begin(), write(3, "a", 4), end(3)), "[4] [6 7 6]"}, {play("a", nil, write(1, "a", 3), api.Deed{Kind: 7}, begin(), write(1, "A", 3), write(1, "x", 3), end(1)), "[0] [6]"},
		{play("", nil), "!1"}, {play("a a", nil), "!1"}, {play("a", []int{-1}), "!7"}, {play("a", []int{1, 1}), "!7"}, {play("a", []int{2, 1}), "!7"}, {play("A", []int{-1}), "!1"},
		// The second fall comes while the orders that were recovered are done.
		{play("a b", []int{6, 7, 8, 9, 10, 11, 12}, two...), "[1 2] [6]"},
		// Writes of a transaction that is gone are left out; numbers go on.
		{play("a b", []int{0}, append(two, begin(), write(1, "a", 9), add(2, "a", 5), end(2))...), "[5 0] [7 6]"},
	})
}

// alone does the writes of the transactions that were committed, in the order of their commits.
func alone(names []string, deeds []api.Deed, states []int) []int {
	values := make([]int, len(names))
	for i, c := range deeds {
		if c.Kind != 4 || c.Txn < 1 || c.Txn > len(states) || states[c.Txn-1] != 6 || slices.ContainsFunc(deeds[:i], func(a api.Deed) bool { return a.Kind == 4 && a.Txn == c.Txn }) {
			continue
		}
		for _, a := range deeds[:i] {
			at := slices.Index(names, a.Name)
			switch {
			case a.Txn != c.Txn || at < 0:
			case a.Kind == 2:
				values[at] = a.N
			case a.Kind == 3:
				values[at] += a.N
			}
		}
	}
	return values
}

// serial returns deeds in which each transaction ends before the next one begins.
func serial(r *sample.Source, names []string) []api.Deed {
	var l []api.Deed
	for n := 1; n <= 4; n++ {
		l = append(l, begin())
		for range r.Int(5) {
			x := r.Int(900) - 450
			if r.Int(20) == 0 {
				x = 5000
			}
			l = append(l, api.Deed{Kind: 2 + r.Int(2), Txn: n, Name: names[r.Int(len(names))], N: x})
		}
		l = append(l, api.Deed{Kind: 4 + min(1, r.Int(5)/4), Txn: n})
	}
	return l
}

// TestAtomic lets everything fall at all moments, alone and by pairs.
func TestAtomic(t *testing.T) {
	r := sample.New(2700)
	names := []string{"a", "b", "c"}
	for range 40 {
		deeds := serial(r, names)
		check := func(falls ...int) {
			values, states, e := Play(names, deeds, falls)
			if e != api.OK || len(states) != 4 {
				t.Fatal(e, states)
			}
			if want := alone(names, deeds, states); !slices.Equal(values, want) {
				t.Fatalf("%v with %v: %v instead of %v (%v)", deeds, falls, values, want, states)
			}
		}
		for i := range 70 {
			check(i)
			for range 10 {
				check(i, i+1+r.Int(20))
			}
		}
	}
}

// TestBeside lets transactions write beside each other.
func TestBeside(t *testing.T) {
	r := sample.New(27000)
	names := []string{"a", "b", "c"}
	for range 500 {
		l := []api.Deed{begin(), begin(), begin()}
		owner := map[string]int{}
		for range 20 {
			n, name := 1+r.Int(3), names[r.Int(3)]
			if owner[name] == 0 {
				owner[name] = n
			}
			// Each name is written by one transaction alone, so that no deed is refused.
			l = append(l, api.Deed{Kind: 2 + r.Int(2), Txn: owner[name], Name: name, N: r.Int(50)})
		}
		l = append(l, end(2), end(3), end(1))
		for fall := range 30 {
			values, states, _ := Play(names, l, []int{fall})
			if want := alone(names, l, states); !slices.Equal(values, want) {
				t.Fatal(l, fall, values, want, states)
			}
		}
	}
}
