package host

import (
	"fmt"
	"hash/fnv"
	"slices"
	"strconv"
	"strings"
	"testing"

	"intermede/api"
	"intermede/ref"
	"intermede/sample"
)

const faces = `exception X { string why; };
interface I { long add(in long a); long via(in I o, in long a); void bad(in string s) raises (X); oneway void note(in long a); string tell(in string s, inout any x); long divide(in long a); };`

const classes = `class C of I {
  field long n; field string kept;
  op add { n = n + a; return n; }
  op via { var long r; r = call o.add(a); n = n + r; return n; }
  op bad { raise X(kept); }
  op note { n = n + a; }
  op tell { return kept; }
  op divide { n = n + 1; return 1 / a; }
}`

func session(t *testing.T, hosts int, numbers ...int) *Host {
	t.Helper()
	h, e := New(faces, classes, hosts, numbers)
	if e != api.OK {
		t.Fatal(e)
	}
	return h
}

// does does lines with ` > ` between each line and what it is to tell.
func does(t *testing.T, h *Host, l ...string) {
	t.Helper()
	for _, s := range l {
		line, want, _ := strings.Cut(s, " > ")
		told, e := h.Do(line)
		if e != api.OK {
			told = "!" + strconv.Itoa(int(e))
		}
		if told != want {
			t.Errorf("%s: %q instead of %q", line, told, want)
		}
	}
}

func reference(host, object int) string {
	return ref.Format(api.Ref{ID: "I:1.0", Profiles: []api.Profile{{Host: "h" + strconv.Itoa(host), Port: 1, Key: "o" + strconv.Itoa(object)}}})
}

func TestExample(t *testing.T) {
	h := session(t, 1)
	told, e := h.Run([]string{"make 0 C", "call 0 1 add 1 | 5:4", "pass 0", "result 1"})
	if fmt.Sprint(told, e) != "[object 1 ticket 1 at 0 1 result | 5:4] 0" {
		t.Error(told, e)
	}
}

func TestDo(t *testing.T) {
	h := session(t, 2)
	one := `16:"` + reference(0, 1) + `"`
	does(t, h,
		"make 0 C > object 1", "make 1 C > object 2", "make 2 C > error 7", "make 0 D > error 5", "call 0 1 add 1 | 5:4 > ticket 1", "call 0 2 add 2 | 5:5 > ticket 2", "result 1 > result | 5:4", "result 2 > error 9", "result 3 > error 8", "result 0 > error 8", "pass 1 > at 1 1", "pass 1 > at 2 2", "pass 1 > at 3", "pass 0 > at 3", "result 2 > result | 5:5", "fields 1 > fields | 5:4 | 7:", "fields 3 > error 8", "fields 0 > error 8", "ended 2 > ended 1", "ended 9 > error 8",
		"call 0 2 note 0 | 5:1 > ticket 3", "call 1 2 bad 1 | 7: > ticket 4", "call 0 2 divide 1 | 5: > ticket 5", "call 0 2 nothing 1 > ticket 6", "call 0 2 add 1 > ticket 7", `call 0 2 tell 0 | 7:"a | b" | 18: > ticket 8`, "pass 9 > at 12 3 4 5 6 7 8", "result 3 > result", `result 4 > exception X:1.0 | 15:(7:)`, "result 5 > system zero maybe", "result 6 > system operation no", "result 7 > system arguments no", "result 8 > result | 7: | 18:", "ended 2 > ended 5",
		"call 2 9 add 1 > error 7", "call 1 9 add 1 > error 8", "call 1 0 add 1 > error 8", "fall 1 > down 1", "fall 1 > error 9", "fall 2 > error 7", "call 1 1 add 1 | 5:1 > error 9", "make 1 C > error 9", "move 2 0 > error 9", "rise 1 > up 1", "rise 1 > error 9", "rise 8 > error 7", "part 0 1 > parted", "call 0 2 add 2 | 5:1 > ticket 9", "part 0 > error 11", "part 0 1 2 > error 11", "pass 7 > at 19", "fall 0 > down 0", "result 9 > system fallen maybe", "pass 0 > at 19 9", "rise 0 > up 0", "part 7 7 > parted",
		"link 0 1 10 0 0 0 > linked", "link 0 0 1 0 0 0 > error 10", "link 0 2 1 0 0 0 > error 7", "link 0 1 1001 0 0 0 > error 1", "link 9 9 0 0 101 0 > error 1", "call 0 2 via 1 | "+one+" | 5:3 > ticket 10", "pass 11 > at 30", "pass 10 > at 40", "pass 3 > at 43 10", "result 10 > result | 5:14",
		"move 1 1 > moved 1 1", "move 1 1 > error 10", "move 1 2 > error 7", "move 9 1 > error 8", "move 9 9 > error 7", "call 1 1 add 0 | 5:1 > ticket 11", "result 11 > result | 5:8", "pass 100000 > at 100043 11", "pass 100001 > !15", "pass 1000000000 > !15", "pass 0 > at 100043",
	)
	if h.Now() != 100043 || !h.Settled() || h.Count() != 75 || !slices.Equal(h.Objects(), []string{reference(1, 1), reference(1, 2)}) {
		t.Error(h.Now(), h.Settled(), h.Count(), h.Objects())
	}
}

func TestValid(t *testing.T) {
	long := strings.Repeat("x", 193)
	h := session(t, 1)
	for line, want := range map[string]bool{
		"make 0 C": true, "make 1000000000 C": true, "make 1000000001 C": false, "make 00 C": false, "make -1 C": false, "make +1 C": false, "make 0": false, "make 0 ": false, "make 0 C ": false, "make 0 C D": false, " make 0 C": false, "make  0 C": false, "make 0  C": false, "make C 0": false, "Make 0 C": false, "make 0 a-b|": true, "make 0 " + long: true, "make 0 " + long + "x": false, "make 0 C\n": false, "make 0 \x7f": false, "make 0 \xe4": false, "make 0 \t": false, "": false, " ": false, "make": false, "nothing 0": false,
		"call 0 1 add 0": true, "call 0 1 add 2": true, "call 0 1 add 3": false, "call 0 1 add": false, "call 0 1 2": false, "call 0 1 add 00": false, "call 0 1 add 1 | 5:4": true, "call 0 1 add 1 | 5:4 | 5:": true, "call 0 1 add 1 |": false, "call 0 1 add 1 | ": false, "call 0 1 add 1 5:4": false, "call 0 1 add 1| 5:4": false, "call 0 1 add 1 |5:4": false, "call 0 1 add 1 | 5:0": false, "call 0 1 add 1 | x": false, "call 0 1 add 1 | 5:4 ": false, "call 0 1 add 1 | 5:4 | ": false, "call 0 1 add 1 |  5:4": false, `call 0 1 add 1 | 7:"a | b"`: true, `call 0 1 add 1 | 7:"a | b`: false, `call 0 1 add 1 | 7:" | " | 7:" | "`: true, `call 0 1 add 1 | 12:(7:"a" 7:" | ")`: true, "call 0 1 add 1 | 17:; V:1.0 (5:1)": true, "call 0 1 | 5:4": false,
		"pass 0": true, "pass 100000": true, "pass 100001": false, "pass 1000000000": false, "pass 1000000001": false, "pass": false, "pass 1 1": false, "pass 99999999999999999999": false, "result 0": true, "result 1": true, "result x": false, "fall 0": true, "fall": false, "rise 7": true, "part 0": true, "part 0 1 2 3 4 5 6 7 8": true, "part": false, "part ": false, "part 0 x": false, "part 0  1": false, "link 0 1 1 0 0 0": true, "link 0 1 1 0 0": false, "link 0 1 1 0 0 0 0": false, "move 1 1": true, "move 1": false, "fields 1": true, "fields": false, "ended 1": true, "ended 1 ": false, "ended 1 | 5:": false,
	} {
		before := h.Count()
		told, e := h.Do(line)
		if Valid(line) != want || (e == api.OK) != want || !want && (e != api.ErrCommand || told != "" || h.Count() != before) || want && h.Count() != before+1 {
			t.Errorf("%q: %t, %d", line, Valid(line), e)
		}
	}
}

func TestNew(t *testing.T) {
	for i, c := range []struct {
		idl, classes string
		hosts        int
		numbers      []int
		want         api.Errno
	}{
		{faces, classes, 8, []int{1}, api.OK}, {"", "", 1, nil, api.OK}, {strings.Repeat(" ", api.MaxText+1), "?", 0, nil, api.ErrLong}, {"?", "?", 0, nil, api.ErrSyntax}, {"typedef Q R;", "?", 0, nil, api.ErrName}, {faces, "?", 0, nil, api.ErrRange}, {faces, "?", 9, nil, api.ErrRange}, {faces, "?", 1, []int{-1}, api.ErrRange}, {faces, "?", 1, nil, api.ErrSyntax}, {faces, classes + classes, 1, nil, api.ErrDuplicate}, {faces, classes, 1, make([]int, 10001), api.ErrLimit},
	} {
		h, e := New(c.idl, c.classes, c.hosts, c.numbers)
		r, n, e2 := Replay(c.idl, c.classes, c.hosts, c.numbers, "x\n")
		if e != c.want || (h == nil) != (e != api.OK) || r != nil || n != 0 || e == api.OK && e2 != api.ErrSum || e != api.OK && e2 != e {
			t.Error(i, e, e2)
		}
	}
}

func TestNil(t *testing.T) {
	var h *Host
	_, e1 := h.Do("?")
	_, e2 := h.Run(nil)
	if e1 != api.ErrInvalid || e2 != api.ErrInvalid || h.Book() != "" || h.Count() != 0 || h.Now() != 0 || h.Objects() != nil || h.Settled() {
		t.Error(e1, e2)
	}
	var zero Host
	if told, e := zero.Do("make 0 C"); told != "error 1" || e != api.OK {
		t.Error(told, e)
	}
	for _, line := range []string{"call 0 1 add 1", "pass 1", "result 1", "fall 0", "rise 0", "part 0", "link 0 1 1 0 0 0", "move 1 1", "fields 1", "ended 1"} {
		if told, e := zero.Do(line); told != "error 1" || e != api.OK {
			t.Error(line, told, e)
		}
	}
}

// book writes lines as a book, apart from the program.
func book(lines ...string) string {
	s, sum := "", uint64(0)
	for i, line := range lines {
		h := fnv.New64a()
		fmt.Fprintf(h, "%016x %s", sum, line)
		sum = h.Sum64()
		s += fmt.Sprintf("%d %016x %s\n", i, sum, line)
	}
	return s
}

func lines(book string) string {
	l, torn, e := Lines(book)
	s := ""
	for i, line := range l {
		if line.Number != i {
			return "wrong numbers"
		}
		s += line.Text + ";"
	}
	return s + fmt.Sprint(torn, " ", int(e))
}

func TestBook(t *testing.T) {
	h := session(t, 1)
	h.Run([]string{"make 0 C", "make 5 C", "pass 3", "make", "pass 4"})
	b := book("make 0 C", "make 5 C", "pass 3")
	if h.Book() != b {
		t.Error(h.Book(), b)
	}
	first := book("make 0 C")
	many := slices.Repeat([]string{"pass 1"}, 501)
	wrong := slices.Clone(many)
	wrong[500] = "nothing"
	for i, c := range []struct{ book, want string }{
		{"", "false 0"}, {b, "make 0 C;make 5 C;pass 3;false 0"}, {b[:len(b)-1], "make 0 C;make 5 C;true 0"}, {first + "x", "make 0 C;true 0"}, {"x", "true 0"}, {"x\n", "false 14"}, {"\n", "false 14"}, {first + "\n", "make 0 C;false 14"}, {first + first, "make 0 C;false 14"}, {b[len(first):], "false 14"}, {strings.Replace(b, "make 5", "make 6", 1), "make 0 C;false 14"}, {strings.ToUpper(first), "false 14"}, {" " + first, "false 14"}, {"0" + first, "false 14"}, {strings.Replace(first, "0 ", "1 ", 1), "false 14"}, {strings.Replace(b, "\n1 ", "\n01 ", 1), "make 0 C;false 14"}, {book("make 0 C", "nothing", "pass 3"), "make 0 C;false 14"}, {book("pass 100000", "pass 100001"), "pass 100000;false 14"}, {book("make 0 C", "call 0 1 x 1 | y"), "make 0 C;false 14"}, {book(many[:500]...), strings.Repeat("pass 1;", 500) + "false 0"}, {book(many[:500]...) + "500", strings.Repeat("pass 1;", 500) + "true 0"}, {book(many...), "false 4"}, {book(many...) + "x\n", "false 4"}, {book(wrong...), strings.Repeat("pass 1;", 500) + "false 14"}, {book(many[:500]...) + "x\n", strings.Repeat("pass 1;", 500) + "false 14"}, {strings.Repeat("x", 200000), "true 0"}, {strings.Repeat("x", 200001), "false 3"}, {strings.Repeat("\n", 200001), "false 3"},
	} {
		if got := lines(c.book); got != c.want {
			t.Error(i, got)
		}
		_, n, e := Replay(faces, classes, 1, nil, c.book)
		if want := strings.Count(c.want, ";"); e == api.OK && n != want || e != api.OK && n != 0 || !strings.HasSuffix(c.want, " "+strconv.Itoa(int(e))) {
			t.Error(i, n, e)
		}
	}
	parting := func(a, b string) string {
		n, e := Parting(a, b)
		return fmt.Sprint(n, " ", int(e))
	}
	other := book("make 0 C", "make 6 C", "pass 3")
	for i, c := range [][3]string{{b, b, "3 0"}, {b, other, "1 0"}, {b, first, "1 0"}, {first, b, "1 0"}, {b, "", "0 0"}, {b, b[:len(b)-3], "2 0"}, {b, "x\n", "0 14"}, {"x\n", strings.Repeat("x", 200001), "0 14"}, {b, strings.Repeat("x", 200001), "0 3"}, {book(many...), "x\n", "0 4"}, {b, book("pass 3"), "0 0"}} {
		if got := parting(c[0], c[1]); got != c[2] {
			t.Error(i, got)
		}
	}
}

func TestLimit(t *testing.T) {
	h := session(t, 1)
	for i := range 500 {
		if _, e := h.Do("pass 1"); e != api.OK {
			t.Fatal(i, e)
		}
	}
	does(t, h, "pass 1 > !4", "nothing > !15", "make 9 C > !4")
	if h.Now() != 500 || h.Count() != 500 || len(h.Book()) > maxBook {
		t.Error(h.Now(), h.Count())
	}
	long := "make 0 " + strings.Repeat("x", 193)
	if n := len(book(slices.Repeat([]string{long}, 500)...)); n > maxBook {
		t.Error(n)
	}
	r, n, e := Replay(faces, classes, 1, nil, h.Book())
	if e != api.OK || n != 500 || r.Now() != 500 {
		t.Error(n, e)
	}
	l, e := session(t, 1).Run([]string{"pass 1", "nothing", "pass 1"})
	if fmt.Sprint(l, int(e)) != "[at 1] 15" {
		t.Error(l, e)
	}
}

// anyLine returns a line; some are none.
func anyLine(r *sample.Source) string {
	n := func(most int) string { return strconv.Itoa(r.Int(most)) }
	switch r.Int(16) {
	case 0, 1:
		return "make " + n(4) + " C"
	case 2, 3, 4:
		return "call " + n(4) + " " + n(4) + " add " + n(3) + " | 5:" + strconv.Itoa(1+r.Int(9))
	case 5:
		return "call " + n(3) + " " + n(4) + ` via 2 | 16:"` + reference(r.Int(3), 1+r.Int(3)) + `" | 5:1`
	case 6:
		return "call " + n(3) + " " + n(4) + " " + []string{"note 1 | 5:2", "bad 1 | 7:", "divide 2 | 5:", "add 1"}[r.Int(4)]
	case 7, 8, 9:
		return "pass " + n(12)
	case 10:
		return "result " + n(20)
	case 11:
		return []string{"fall ", "rise ", "rise "}[r.Int(3)] + n(4)
	case 12:
		return "part " + n(2) + " " + n(2) + " " + n(2)
	case 13:
		return "link " + n(4) + " " + n(4) + " " + n(4) + " " + n(4) + " " + n(60) + " " + n(60)
	case 14:
		return "move " + n(4) + " " + n(4)
	}
	return []string{"fields 1", "ended 2", "fields 2", "nothing", "", "pass"}[r.Int(6)]
}

// state tells the state of a session's objects.
func state(h *Host) string {
	s := ""
	for _, target := range h.Objects() {
		l, _ := h.Fields(target)
		n, _ := h.Ended(target)
		s += fmt.Sprint(target, l, n, "\n")
	}
	return s
}

func TestPromises(t *testing.T) {
	r := sample.New(34)
	for range 12 {
		var numbers []int
		for range 200 {
			numbers = append(numbers, r.Int(1000000))
		}
		h, one := session(t, 3, numbers...), session(t, 3, numbers...)
		var told []string
		cut, middle := 20+r.Int(20), ""
		for i := range 60 {
			line := anyLine(r)
			before, now := state(h), h.Now()
			s, e := h.Do(line)
			l, e2 := one.Run([]string{line, line}[:1])
			if e != e2 || e == api.OK && l[0] != s {
				t.Fatal("Run is not Do", line, s, l)
			}
			if (e != api.OK || strings.HasPrefix(s, "error ")) && state(h) != before || e != api.OK && h.Now() != now {
				t.Fatal("changed", line, s)
			}
			if e == api.OK {
				told = append(told, s)
			}
			if i == cut {
				middle = h.Book()
			}
		}
		// Every beginning is read; the replay of one tells what follows as it was told.
		b := h.Book()
		for range 50 {
			if _, _, e := Lines(b[:r.Int(len(b)+1)]); e != api.OK {
				t.Fatal("a beginning", e)
			}
		}
		again, n, e := Replay(faces, classes, 3, numbers, middle+b[len(middle):len(middle)+5])
		if e != api.OK || again.Book() != middle {
			t.Fatal(e, n)
		}
		all, _, _ := Lines(b)
		for i, l := range all[n:] {
			if s, e := again.Do(l.Text); e != api.OK || s != told[n+i] {
				t.Fatal(l.Text, s, told[n+i])
			}
		}
		if again.Book() != b || state(again) != state(h) || again.Now() != h.Now() || again.Settled() != h.Settled() {
			t.Fatal("not the session")
		}
	}
}
