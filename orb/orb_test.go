package orb

import (
	"fmt"
	"reflect"
	"slices"
	"strconv"
	"strings"
	"testing"

	"intermede/api"
	"intermede/call"
	"intermede/data"
	"intermede/ref"
	"intermede/repo"
	"intermede/sample"
)

const faces = `
exception X { string why; long n; };
valuetype V { V next; long n; };
interface I {
  long add(in long a);
  long get();
  long via(in I o, in long a);
  long twice(in I o, in I p);
  long safe(in I o, in long a);
  long round(in I o);
  long sink(in I o);
  void bad(in long k) raises (X);
  V link(in V v, inout any x, out type y);
  oneway void note(in long a);
  oneway void pass(in I o, in long a);
  oneway void later(in I o);
  string many(in long times);
  string catches(in I o);
  long longer(in string s);
  I me();
};
interface J { long only(); };
`

const classes = `
class C of I {
  field long n; field V head;
  op add { n = n + a; return n; }
  op get { return n; }
  op via { var long r; n = n + 1; r = call o.add(a); n = n + r; return n; }
  op twice { var long r; r = call o.add(1); r = call p.add(1); n = n + r; return n; }
  op safe { var long r; var string s; try { r = call o.add(a); } catch s { r = 0 - 1; } return r; }
  op round { var long r; r = call o.via(self, 1); return r; }
  op sink { var long r; r = call o.sink(o); return r; }
  op bad { n = n + 1; if k == 1 { raise X("one", k); } if k == 2 { n = k / 0; } }
  op link { head = v; return head; }
  op note { n = n + a; }
  op pass { var long r; r = call o.add(a); n = n + r; }
  op later { call self.note(1); call o.note(5); n = n + 100; }
  op many { var string s; var long i; while i < times { s = s & "0123456789"; i = i + 1; } return s; }
  op catches { var string s; var long r; try { r = call o.add(1); s = "done"; } catch s { n = n + 1; } return s; }
  op longer { n = n + 1; return n; }
  op me { return self; }
}
class D of J { op only { return 7; } }
`

func defs(t *testing.T) []api.Def {
	t.Helper()
	l, line, path, e := repo.Read(faces)
	if e != api.OK {
		t.Fatal(line, path, e)
	}
	return l
}

// orb returns an orb with objects of the class C on the hosts that are told.
func orb(t *testing.T, hosts int, numbers []int, on ...int) *Orb {
	t.Helper()
	o, e := New(defs(t), classes, hosts, numbers)
	if e != api.OK {
		t.Fatal(e)
	}
	for _, h := range on {
		if _, e := o.Make(h, "C"); e != api.OK {
			t.Fatal(e)
		}
	}
	return o
}

func quoted(s string) string { return `16:"` + s + `"` }

// graphs reads arguments; $1 is the first object's reference as it was made.
func graphs(o *Orb, l ...string) []api.Graph {
	var out []api.Graph
	for _, s := range l {
		for i := range o.objects {
			s = strings.ReplaceAll(s, "$"+strconv.Itoa(i+1)+"$", quoted(o.Objects()[i]))
		}
		g, at, e := data.Parse(s)
		if e != api.OK {
			panic(s + " at " + strconv.Itoa(at))
		}
		out = append(out, g)
	}
	return out
}

func show(out api.Outcome, e api.Errno) string {
	if e != api.OK {
		return "!" + strconv.Itoa(int(e))
	}
	s := [...]string{"result", "exception " + out.ID, "system " + out.ID + " " + strconv.Itoa(out.Done)}[out.State]
	for _, g := range out.Data {
		f := data.Format(g)
		if len(f) > 60 {
			f = f[:20] + ".." + strconv.Itoa(len(f))
		}
		s += " | " + f
	}
	return s
}

func told(o *Orb, ticket int) string { return show(o.Result(ticket)) }

var once0, once1 = api.How{}, api.How{Once: 1, Big: true}

func once2(pause int) api.How { return api.How{Once: 2, Pause: pause, Dynamic: true} }

// made makes a call of the object with a number.
func made(t *testing.T, o *Orb, host, object int, how api.How, op string, args ...string) int {
	t.Helper()
	n, e := o.Call(host, o.Objects()[object-1], op, graphs(o, args...), how)
	if e != api.OK {
		t.Fatal(e)
	}
	return n
}

// done makes a call, and lets the time go on till it is over.
func done(t *testing.T, o *Orb, host, object int, how api.How, op string, args ...string) string {
	t.Helper()
	n := made(t, o, host, object, how, op, args...)
	o.Pass(o.Now() + 1000)
	return told(o, n)
}

func fields(o *Orb, object int) string {
	l, e := o.Fields(o.Objects()[object-1])
	if e != api.OK {
		return "!" + strconv.Itoa(int(e))
	}
	return strconv.Itoa(l[0].Root.N)
}

func ended(o *Orb, object int) int {
	n, _ := o.Ended(o.Objects()[object-1])
	return n
}

type step struct{ got, want string }

func steps(t *testing.T, l []step) {
	t.Helper()
	for i, s := range l {
		if s.got != s.want {
			t.Errorf("%d: %q instead of %q", i, s.got, s.want)
		}
	}
}

func code(e api.Errno) string { return strconv.Itoa(int(e)) }

func text[T any](x T, e api.Errno) string {
	if e != api.OK {
		return "!" + code(e)
	}
	return fmt.Sprint(x)
}

func TestHow(t *testing.T) {
	o := orb(t, 1, nil, 0)
	for i, c := range []struct {
		how  api.How
		want bool
	}{{api.How{}, true}, {api.How{Once: 1, Limit: 1000000, Big: true, Dynamic: true}, true}, {api.How{Once: 2, Pause: 1}, true}, {api.How{Once: 2, Pause: 1000}, true}, {api.How{Once: 2}, false}, {api.How{Once: 2, Pause: 1001}, false}, {api.How{Once: 2, Pause: -1}, false}, {api.How{Once: 1, Pause: 1}, false}, {api.How{Pause: 1}, false}, {api.How{Once: 3}, false}, {api.How{Once: -1}, false}, {api.How{Limit: -1}, false}, {api.How{Limit: 1000001}, false}, {api.How{Once: 2, Pause: 1, Limit: -1}, false}} {
		_, e := o.Call(9, "x", "y", nil, c.how)
		want := api.ErrRange
		if !c.want {
			want = api.ErrInvalid
		}
		if ValidHow(c.how) != c.want || e != want {
			t.Error(i, e)
		}
	}
}

func TestNew(t *testing.T) {
	d := defs(t)
	for i, c := range []struct {
		defs    []api.Def
		text    string
		hosts   int
		numbers []int
		want    api.Errno
	}{
		{d, classes, 1, nil, api.OK}, {d, classes, 8, make([]int, 10000), api.OK}, {nil, "", 1, nil, api.OK}, {[]api.Def{{}}, "?", 0, nil, api.ErrInvalid}, {d, "?", 0, nil, api.ErrRange}, {d, "?", 9, nil, api.ErrRange}, {d, "?", -1, nil, api.ErrRange}, {d, "?", 2, []int{1, -1}, api.ErrRange}, {d, "?", 1, make([]int, 10001), api.ErrSyntax}, {d, classes, 1, make([]int, 10001), api.ErrLimit}, {d, classes + classes, 1, nil, api.ErrDuplicate}, {d, "class E of Q { }", 1, nil, api.ErrName}, {d, strings.Repeat(" ", api.MaxText+1), 1, nil, api.ErrLong},
	} {
		o, e := New(c.defs, c.text, c.hosts, c.numbers)
		if e != c.want || (o == nil) != (e != api.OK) {
			t.Error(i, e)
		}
	}
}

func TestMake(t *testing.T) {
	o := orb(t, 2, nil)
	first, _ := o.Make(1, "C")
	r, e := ref.Parse(first)
	if want := (api.Ref{ID: "I:1.0", Profiles: []api.Profile{{Host: "h1", Port: 1, Key: "o1"}}}); e != api.OK || !reflect.DeepEqual(r, want) {
		t.Error(r, e)
	}
	o.Fall(1)
	steps(t, []step{{text(o.Make(2, "Q")), "!7"}, {text(o.Make(-1, "C")), "!7"}, {text(o.Make(1, "Q")), "!5"}, {text(o.Make(1, "C")), "!9"}})
	for range 59 {
		o.Make(0, "D")
	}
	steps(t, []step{{text(o.Make(0, "C")), "!4"}, {text(o.Make(1, "C")), "!9"}, {strconv.Itoa(len(o.Objects())), "60"}, {text(o.Where(o.Objects()[59])), "0"}, {text(o.Where(first)), "1"}, {text(o.Where("")), "!8"}, {text(o.Where("x")), "!8"}})
	if o.Objects()[0] != first {
		t.Error("another reference")
	}
}

func TestNil(t *testing.T) {
	var o *Orb
	_, e1 := o.Make(9, "")
	_, e2 := o.Call(9, "", "", nil, once0)
	_, e3 := o.Result(1)
	_, e4 := o.Move("", 9)
	_, e5 := o.Fields("")
	_, e6 := o.Where("")
	_, e7 := o.Ended("")
	_, e8 := o.Remembered(9)
	for i, e := range []api.Errno{o.Pass(-1), o.Fall(9), o.Rise(9), o.Part(nil), o.Link(9, 9, api.Link{Delay: -1}), o.Set("", "", api.Graph{}), e1, e2, e3, e4, e5, e6, e7, e8} {
		if e != api.ErrInvalid {
			t.Error(i, e)
		}
	}
	sent, arrived, lost, doubled := o.Counts()
	if o.Now() != 0 || o.Settled() || o.Objects() != nil || sent+arrived+lost+doubled != 0 {
		t.Error("nil")
	}
	var zero Orb
	if zero.Pass(0) != api.ErrInvalid || zero.Now() != 0 || zero.Objects() != nil || zero.Fall(0) != api.ErrRange {
		t.Error("an empty orb")
	}
}

func TestExample(t *testing.T) {
	o := orb(t, 2, []int{10, 60, 60}, 1)
	o.Link(0, 1, api.Link{Delay: 1, Loss: 50})
	o.Link(1, 0, api.Link{Delay: 1, Loss: 50})
	n := made(t, o, 0, 1, once2(5), "add", "5:4")
	var l []string
	for i := range 9 {
		o.Pass(i)
		l = append(l, told(o, n)+" "+strconv.Itoa(ended(o, 1)))
	}
	want := strings.Repeat("!9 0,", 6) + "!9 1,result | 5:4 1,result | 5:4 1"
	if strings.Join(l, ",") != want || !o.Settled() {
		t.Error(l)
	}
	sent, arrived, lost, doubled := o.Counts()
	if sent != 3 || arrived != 2 || lost != 1 || doubled != 0 {
		t.Error(sent, arrived, lost, doubled)
	}
}

func TestRefused(t *testing.T) {
	o := orb(t, 2, nil, 0, 1)
	two := o.Objects()[1]
	r, _ := ref.Parse(two)
	r.ID = "Q:1.0"
	r.Profiles = append([]api.Profile{{Host: "h7", Port: 1, Key: "o1"}, {Host: "h1", Port: 2, Key: "o1"}}, r.Profiles...)
	other, _ := ref.Parse(two)
	other.Profiles[0].Host = "h0"
	for i, c := range []struct {
		target, op string
		args       []string
		want       string
	}{
		{"x", "add", nil, "system reference 1"}, {ref.Format(api.Ref{}), "add", nil, "system reference 1"}, {"", "add", nil, "system reference 1"}, {ref.Format(other), "q", nil, "system object 1"}, {strings.Replace(two, "REF:", "ref:", 1), "q", nil, "system reference 1"}, {two, "q", nil, "system operation 1"}, {two, "", nil, "system operation 1"}, {two, "add", nil, "system arguments 1"}, {two, "add", []string{"6:1"}, "system arguments 1"}, {two, "add", []string{"5:1", "5:1"}, "system arguments 1"}, {ref.Format(r), "add", []string{"5:5"}, "!9"}, {two, "note", nil, "system arguments 1"}, {two, "note", []string{"5:1"}, "result"},
	} {
		n, e := o.Call(0, c.target, c.op, graphs(o, c.args...), once1)
		if got := told(o, n); e != api.OK || got != c.want || n != i+1 {
			t.Error(i, got, e)
		}
	}
	o.Pass(5)
	sent, _, _, _ := o.Counts()
	if told(o, 11) != "result | 5:5" || sent != 3 || fields(o, 2) != "6" {
		t.Error(told(o, 11), sent, fields(o, 2))
	}
	steps(t, []step{{text(o.Call(2, "x", "add", nil, once1)), "!7"}, {told(o, 0), "!8"}, {told(o, -1), "!8"}, {told(o, 14), "!8"}})
	o.Fall(0)
	steps(t, []step{{text(o.Call(0, "x", "add", nil, once1)), "!9"}})
	o.Rise(0)
	for range 187 {
		o.Call(0, "x", "add", nil, once1)
	}
	steps(t, []step{{text(o.Call(0, "x", "add", nil, once1)), "!4"}, {told(o, 200), "system reference 1"}})
}

func TestLimits(t *testing.T) {
	for _, on := range []int{0, 1} {
		o := orb(t, 2, nil, on)
		// An answer of up to 1,000 bytes is told, a question of more than 16,000 is not asked.
		if got := done(t, o, 0, 1, once1, "many", "5:99"); got != `result | 7:"01234567890123456..994` {
			t.Error(got)
		}
		if got := done(t, o, 0, 1, once1, "many", "5:101"); got != "system range 1" {
			t.Error(got)
		}
		if got := done(t, o, 0, 1, once1, "sink", "$1$"); got != "system again 2" {
			t.Error(got)
		}
	}
	// A question that is too long, and calls that are too deep.
	text := "interface K { long f(in sequence<string> l); sequence<string> g(in string s); long deep(in K o); };"
	d, _, _, _ := repo.Read(text)
	class := `class E of K { field long n; op f { n = n + 1; return n; } op g { } op deep { var long r; n = n + 1; r = call o.deep(o); return r; } }`
	for _, hosts := range []int{1, 2} {
		o, e := New(d, class, hosts, nil)
		if e != api.OK {
			t.Fatal(e)
		}
		o.Make(hosts-1, "E")
		o.Make(0, "E")
		l := func(n int) string { return "12:(" + strings.Repeat(` 7:"`+strings.Repeat("x", 991)+`"`, n)[1:] + ")" }
		steps(t, []step{{done(t, o, 0, 1, once1, "f", l(16)), "result | 5:1"}, {done(t, o, 0, 1, once1, "f", l(17)), "system limit 1"}})
	}
}

func TestDeep(t *testing.T) {
	d, _, _, _ := repo.Read("interface K { long deep(in sequence<string> l, in long n); };")
	class := `class E of K { field K to; op deep { var long r; r = call to.deep(l, n); return r; } }`
	o, e := New(d, class, 2, nil)
	if e != api.OK {
		t.Fatal(e)
	}
	for i := range 23 {
		o.Make(i%2, "E")
	}
	for i := range 22 {
		o.Set(o.Objects()[i], "to", graphs(o, "$"+strconv.Itoa(i+2)+"$")[0])
	}
	steps(t, []step{{done(t, o, 0, 1, once1, "deep", "12:", "5:1"), "system deep 2"}})
	for i, x := range o.objects {
		if want := min(1, max(0, 21-i)); x.ended != want {
			t.Error(i, x.ended)
		}
	}
}

func TestOnce(t *testing.T) {
	for once, want := range []int{2, 1, 1} {
		o := orb(t, 2, nil, 1)
		o.Link(0, 1, api.Link{Delay: 2, Double: 100})
		how := api.How{Once: once}
		if once == 2 {
			how.Pause = 20
		}
		n := made(t, o, 0, 1, how, "add", "5:1")
		steps(t, []step{{told(o, n), "!9"}})
		o.Pass(2)
		steps(t, []step{{told(o, n), "!9"}, {strconv.Itoa(ended(o, 1)), "1"}})
		o.Pass(3)
		steps(t, []step{{told(o, n), "result | 5:1"}})
		if o.Settled() {
			t.Error("a packet is under way")
		}
		o.Pass(100)
		if ended(o, 1) != want || fields(o, 1) != strconv.Itoa(want) || told(o, n) != "result | 5:1" || !o.Settled() {
			t.Error(once, ended(o, 1), fields(o, 1))
		}
		remembered := strconv.Itoa(min(once, 1))
		steps(t, []step{{text(o.Remembered(1)), remembered}, {text(o.Remembered(0)), "0"}, {text(o.Remembered(2)), "!7"}})
	}
	// A one-way call is over at once, its copies are done once, and it is sent once.
	for once, want := range []int{2, 1, 1} {
		o := orb(t, 2, nil, 1)
		o.Link(0, 1, api.Link{Delay: 2, Double: 100})
		how := api.How{Once: once, Limit: 1}
		if once == 2 {
			how.Pause = 1
		}
		n := made(t, o, 0, 1, how, "note", "5:3")
		steps(t, []step{{told(o, n), "result"}, {fields(o, 1), "0"}})
		o.Pass(100)
		sent, arrived, _, _ := o.Counts()
		if ended(o, 1) != want || sent != 1 || arrived != 2 || text(o.Remembered(1)) != strconv.Itoa(min(once, 1)) {
			t.Error(once, ended(o, 1), sent)
		}
	}
}

func TestAgain(t *testing.T) {
	// The reply is lost; what is sent again finds it remembered.
	o := orb(t, 2, []int{0, 0, 99, 99}, 1)
	o.Link(1, 0, api.Link{Delay: 1, Loss: 90})
	n := made(t, o, 0, 1, once2(7), "add", "5:2")
	o.Pass(8)
	steps(t, []step{{told(o, n), "!9"}, {strconv.Itoa(ended(o, 1)), "1"}})
	o.Pass(9)
	steps(t, []step{{told(o, n), "result | 5:2"}, {strconv.Itoa(ended(o, 1)), "1"}, {fields(o, 1), "2"}})
	sent, _, lost, _ := o.Counts()
	if sent != 4 || lost != 1 || !o.Settled() {
		t.Error(sent, lost)
	}
	// With Once 1 nothing is sent again: it waits for ever, or up to a limit.
	o = orb(t, 2, nil, 1)
	o.Link(0, 1, api.Link{Loss: 100})
	n = made(t, o, 0, 1, once1, "add", "5:2")
	m := made(t, o, 0, 1, api.How{Once: 1, Limit: 30}, "add", "5:2")
	k := made(t, o, 0, 1, api.How{Once: 2, Pause: 10, Limit: 30}, "add", "5:2")
	o.Pass(29)
	steps(t, []step{{told(o, m), "!9"}, {told(o, k), "!9"}})
	o.Pass(30)
	steps(t, []step{{told(o, m), "system time 2"}, {told(o, k), "system time 2"}})
	sent, _, _, _ = o.Counts()
	o.Pass(api.MaxTime)
	if told(o, n) != "!9" || sent != 5 || o.Settled() {
		t.Error(sent)
	}
	steps(t, []step{{code(o.Pass(api.MaxTime - 1)), "7"}, {code(o.Pass(api.MaxTime + 1)), "7"}, {code(o.Pass(-1)), "7"}, {code(o.Pass(api.MaxTime)), "0"}})
}

func TestOrder(t *testing.T) {
	// Without delay all is told at the same moment, but not before it is passed.
	o := orb(t, 3, nil, 1, 2)
	for _, pair := range [][2]int{{0, 1}, {1, 0}, {1, 2}, {2, 1}} {
		o.Link(pair[0], pair[1], api.Link{})
	}
	n := made(t, o, 0, 1, once1, "via", "$2$", "5:4")
	steps(t, []step{{told(o, n), "!9"}, {code(o.Pass(0)), "0"}, {told(o, n), "result | 5:5"}, {fields(o, 2), "4"}})
	// A limit of the inner call and of the outer one: the outer one was made first.
	o = orb(t, 3, nil, 1, 2)
	o.Link(1, 2, api.Link{Loss: 100})
	how := api.How{Once: 1, Limit: 10}
	n = made(t, o, 0, 1, how, "safe", "$2$", "5:4")
	o.Pass(10)
	steps(t, []step{{told(o, n), "system time 2"}, {strconv.Itoa(ended(o, 1)), "0"}})
	o.Pass(11)
	steps(t, []step{{strconv.Itoa(ended(o, 1)), "1"}})
	near := made(t, o, 1, 1, how, "safe", "$2$", "5:4")
	o.Pass(21)
	steps(t, []step{{told(o, near), "system time 2"}, {strconv.Itoa(ended(o, 1)), "2"}})
	// What is due at one moment: given up, not sent again.
	o = orb(t, 2, nil, 1)
	o.Part([]int{0, 1})
	made(t, o, 0, 1, api.How{Once: 2, Pause: 5, Limit: 10}, "add", "5:1")
	o.Pass(50)
	sent, _, _, _ := o.Counts()
	steps(t, []step{{strconv.Itoa(sent), "2"}})
}

func TestFall(t *testing.T) {
	o := orb(t, 2, nil, 1, 0)
	steps(t, []step{{code(o.Rise(0)), "9"}, {code(o.Rise(2)), "7"}, {code(o.Fall(2)), "7"}, {code(o.Fall(-1)), "7"}})
	n, m := made(t, o, 0, 1, once2(5), "add", "5:1"), made(t, o, 1, 1, once1, "add", "5:10")
	steps(t, []step{{told(o, m), "result | 5:10"}, {code(o.Fall(0)), "0"}, {code(o.Fall(0)), "9"}, {told(o, n), "system fallen 2"}, {told(o, m), "result | 5:10"}})
	// What was sent before goes on.
	o.Pass(1)
	steps(t, []step{{fields(o, 1), "11"}, {code(o.Rise(0)), "0"}, {code(o.Rise(0)), "9"}})
	o.Pass(50)
	sent, arrived, _, _ := o.Counts()
	steps(t, []step{{told(o, n), "system fallen 2"}, {fmt.Sprint(sent, arrived), "2 2"}, {fmt.Sprint(o.Settled()), "true"}})
	// A method under way has not ended: what it assigned is lost, and it is done anew; the call within is done once.
	o = orb(t, 3, nil, 1, 2)
	o.Link(2, 1, api.Link{Delay: 10})
	n = made(t, o, 0, 1, once2(20), "via", "$2$", "5:7")
	o.Pass(5)
	steps(t, []step{{fields(o, 2), "7"}, {fields(o, 1), "0"}, {code(o.Fall(1)), "0"}, {fields(o, 1), "0"}, {strconv.Itoa(ended(o, 1)), "0"}, {text(o.Where(o.Objects()[0])), "1"}})
	o.Pass(15)
	o.Rise(1)
	o.Pass(100)
	steps(t, []step{{told(o, n), "result | 5:8"}, {fields(o, 2), "7"}, {fields(o, 1), "8"}, {strconv.Itoa(ended(o, 1)), "1"}, {strconv.Itoa(ended(o, 2)), "1"}, {text(o.Remembered(1)), "1"}, {text(o.Remembered(2)), "1"}})
	// Replies and fields survive a fall.
	o = orb(t, 2, []int{0, 0, 0, 0}, 1)
	o.Link(1, 0, api.Link{Delay: 1, Loss: 100})
	n = made(t, o, 0, 1, once2(10), "add", "5:2")
	o.Pass(3)
	o.Fall(1)
	o.Rise(1)
	o.Link(1, 0, api.Link{Delay: 1})
	o.Pass(30)
	steps(t, []step{{told(o, n), "result | 5:2"}, {fields(o, 1), "2"}, {strconv.Itoa(ended(o, 1)), "1"}})
	// The methods that wait are lost, too.
	o = orb(t, 3, nil, 1, 2)
	o.Link(1, 2, api.Link{Loss: 100})
	n, m = made(t, o, 0, 1, once1, "via", "$2$", "5:1"), made(t, o, 0, 1, once1, "add", "5:1")
	o.Pass(5)
	o.Fall(1)
	o.Rise(1)
	o.Pass(50)
	steps(t, []step{{told(o, n), "!9"}, {told(o, m), "!9"}, {strconv.Itoa(ended(o, 1)), "0"}, {done(t, o, 0, 1, once1, "get"), "result | 5:"}})
}

func TestTurns(t *testing.T) {
	// Those that wait begin in the order in which they arrived; the one under way does not see what they do.
	o := orb(t, 3, nil, 1, 2)
	o.Link(1, 2, api.Link{Delay: 10})
	a := made(t, o, 0, 1, once1, "via", "$2$", "5:1")
	b, c := made(t, o, 0, 1, once1, "add", "5:10"), made(t, o, 0, 1, once1, "add", "5:100")
	o.Pass(5)
	near := made(t, o, 1, 1, once1, "add", "5:1000")
	steps(t, []step{{told(o, a), "!9"}, {told(o, b), "!9"}, {told(o, near), "!9"}, {fmt.Sprint(o.Settled()), "false"}, {code(o.Set(o.Objects()[0], "n", graphs(o, "5:1")[0])), "9"}, {text(o.Move(o.Objects()[0], 1)), "!9"}})
	o.Pass(50)
	steps(t, []step{{told(o, a), "result | 5:2"}, {told(o, b), "result | 5:12"}, {told(o, c), "result | 5:112"}, {told(o, near), "result | 5:1112"}, {strconv.Itoa(ended(o, 1)), "4"}})
	// A call by which a method would wait for itself, on the same host and over others.
	for _, on := range [][]int{{0, 0}, {0, 1}, {1, 1}, {1, 2}} {
		o = orb(t, 3, nil, on...)
		steps(t, []step{{done(t, o, 0, 1, once1, "round", "$2$"), "system again 2"}, {done(t, o, 0, 1, once1, "catches", "$1$"), `result | 7:"again"`}, {done(t, o, 0, 1, once1, "catches", "$2$"), `result | 7:"done"`}, {fields(o, 1) + " " + fields(o, 2), "1 2"}, {done(t, o, 0, 1, once1, "later", "$2$"), "result"}, {fields(o, 1) + " " + fields(o, 2), "101 7"}})
	}
	// One that waits with its mark counts as under way.
	o = orb(t, 3, nil, 1, 2)
	o.Link(1, 2, api.Link{Delay: 100})
	o.Link(0, 1, api.Link{Delay: 1, Double: 100})
	a = made(t, o, 0, 1, once1, "via", "$2$", "5:1")
	b = made(t, o, 0, 1, once1, "add", "5:10")
	o.Pass(500)
	steps(t, []step{{told(o, a), "result | 5:2"}, {told(o, b), "result | 5:12"}, {strconv.Itoa(ended(o, 1)), "2"}})
}

func TestMove(t *testing.T) {
	o := orb(t, 3, nil, 0, 1)
	first := o.Objects()[0]
	o.Set(first, "n", graphs(o, "5:5")[0])
	second, e := o.Move(first, 2)
	if e != api.OK || second == first || o.Objects()[0] != second {
		t.Error(second, e)
	}
	r, _ := ref.Parse(second)
	r.Profiles[0].Host = "h1"
	never := ref.Format(r)
	call := func(host int, target string, how api.How) string {
		n, _ := o.Call(host, target, "add", graphs(o, "5:1"), how)
		o.Pass(o.Now() + 100)
		return told(o, n)
	}
	sent := func() int { n, _, _, _ := o.Counts(); return n }
	steps(t, []step{
		{text(o.Where(first)), "2"}, {text(o.Where(second)), "2"}, {text(o.Where(never)), "!8"}, {fields(o, 1), "5"}, {call(0, second, once1), "result | 5:6"}, {strconv.Itoa(sent()), "2"}, {call(0, first, once1), "result | 5:7"}, {strconv.Itoa(sent()), "4"}, {call(1, first, once0), "result | 5:8"}, {strconv.Itoa(sent()), "8"}, {call(2, first, once2(50)), "result | 5:9"}, {strconv.Itoa(sent()), "10"}, {call(0, never, once1), "system object 1"},
		{text(o.Move(first, 2)), "!10"}, {text(o.Move(first, 3)), "!7"}, {text(o.Move(never, 0)), "!8"}, {text(o.Move("x", 0)), "!8"}, {text(o.Move("x", -1)), "!7"}, {text(o.Ended(first)), "4"}, {text(o.Ended(never)), "!8"}, {text(o.Fields(never)), "!8"}, {code(o.Set(never, "n", api.Graph{})), "8"}, {code(o.Set(first, "q", api.Graph{})), "5"}, {code(o.Set(first, "n", graphs(o, "6:1")[0])), "10"}, {fields(o, 1), "9"},
	})
	// A one-way call goes on to where the object is, from afar and on the same host.
	n, _ := o.Call(1, first, "note", graphs(o, "5:1"), once1)
	m, _ := o.Call(0, first, "note", graphs(o, "5:10"), once1)
	steps(t, []step{{told(o, n) + told(o, m), "resultresult"}})
	o.Pass(o.Now() + 100)
	steps(t, []step{{fields(o, 1), "20"}})
	// Down hosts.
	o.Fall(2)
	steps(t, []step{{text(o.Move(first, 1)), "!9"}, {code(o.Set(first, "n", graphs(o, "5:1")[0])), "9"}, {fields(o, 1), "20"}})
	o.Rise(2)
	o.Fall(1)
	steps(t, []step{{text(o.Move(first, 1)), "!9"}})
	o.Rise(1)
	// Back again: a reference of each host leads there.
	if back, e := o.Move(second, 0); back != first || e != api.OK {
		t.Error(back, e)
	}
	steps(t, []step{{call(0, second, once1), "result | 5:21"}, {call(1, second, once1), "result | 5:22"}, {call(1, first, once1), "result | 5:23"}, {text(o.Where(never)), "!8"}})
	o.Move(second, 1)
	steps(t, []step{{text(o.Where(never)), "1"}, {call(2, second, once1), "result | 5:24"}, {call(2, first, once1), "result | 5:25"}, {call(1, first, once1), "result | 5:26"}, {fmt.Sprint(o.Settled()), "true"}})
}

func TestForwards(t *testing.T) {
	// The object goes round while the call follows it: after ten forwards it is given up.
	o := orb(t, 3, nil, 1)
	n, _ := o.Call(0, o.Objects()[0], "add", graphs(o, "5:1"), api.How{})
	for i := range 40 {
		at, _ := o.Where(o.Objects()[0])
		o.Move(o.Objects()[0], 3-at)
		o.Pass(2*i + 2)
	}
	sent, _, _, _ := o.Counts()
	steps(t, []step{{told(o, n), "system forwards 1"}, {strconv.Itoa(sent), "22"}, {strconv.Itoa(ended(o, 1)), "0"}})
	// A forward that comes again sends nothing again.
	o = orb(t, 3, nil, 1)
	first := o.Objects()[0]
	o.Move(first, 2)
	o.Link(1, 0, api.Link{Delay: 1, Double: 100})
	n, _ = o.Call(0, first, "add", graphs(o, "5:1"), api.How{})
	o.Pass(100)
	sent, _, _, _ = o.Counts()
	steps(t, []step{{told(o, n), "result | 5:1"}, {strconv.Itoa(sent), "4"}, {strconv.Itoa(ended(o, 1)), "1"}})
}

// TestStrange sends what no host of an orb sends.
func TestStrange(t *testing.T) {
	o := orb(t, 2, nil, 1)
	n := made(t, o, 0, 1, once1, "get")
	marks := func(mark string) []api.Context {
		return []api.Context{{Tag: markTag, Text: mark}, {Tag: onceTag, Text: "1"}}
	}
	request := api.Message{Kind: api.MRequest, Number: 7, Answer: true, Key: "o1", Op: "add", Contexts: marks("0.1.1/1"), Body: "\x05\x00\x00\x00"}
	strange := []api.Message{{Kind: api.MClose}, {Kind: api.MError}, {Kind: api.MCancel, Number: n}, {Kind: api.MLocate, Key: "o1"}, {Kind: api.MLocated, State: api.SHere}, {Kind: api.MFragment, Number: n, Body: "x"}, {Kind: api.MReply, Number: n, Body: "x"}, {Kind: api.MReply, Number: 99}}
	for _, change := range []func(*api.Message){
		func(m *api.Message) { m.Contexts = nil }, func(m *api.Message) { m.Contexts = marks("0.1.9") }, func(m *api.Message) { m.Contexts = marks("x") }, func(m *api.Message) { m.Body = "x" }, func(m *api.Message) { m.Body += "x" }, func(m *api.Message) { m.Op = "nothing" },
	} {
		m := request
		change(&m)
		strange = append(strange, m)
	}
	for _, m := range strange {
		o.hosts[1].send(0, m)
		o.hosts[0].send(1, m)
	}
	o.net.Send(0, 1, "IMED")
	o.net.Send(0, 1, "")
	o.Pass(2)
	sent, arrived, _, _ := o.Counts()
	steps(t, []step{{told(o, n), "result | 5:"}, {strconv.Itoa(ended(o, 1)), "1"}, {strconv.Itoa(sent), "35"}, {strconv.Itoa(arrived), "35"}})
	// An object that is not there, and a request that is right.
	other := request
	other.Key = "o2"
	o.hosts[0].send(1, other)
	o.hosts[0].send(1, request)
	o.Pass(9)
	sent, _, _, _ = o.Counts()
	steps(t, []step{{strconv.Itoa(sent), "39"}, {fields(o, 1), "5"}, {fmt.Sprint(o.Settled()), "true"}})
}

// TestNearAndFar makes the same calls in a node and in an orb.
func TestNearAndFar(t *testing.T) {
	r := sample.New(33)
	v := []string{"17:-1", "17:; V:1.0 (17:-1 5:3)", "17:; V:1.0 (17: 5:3)", "17:1; V:1.0 (17:-1 5:1); V:1.0 (17: 5:2)"}
	for range 25 {
		node, _ := call.New(defs(t), classes)
		hosts := 1 + r.Int(3)
		var on []int
		for range 3 {
			node.Make("C")
			on = append(on, r.Int(hosts))
		}
		o := orb(t, hosts, nil, on...)
		o.Make(0, "D")
		for range 25 {
			how := []api.How{{}, {Once: 1}, {Once: 2, Pause: 50}}[r.Int(3)]
			how.Big, how.Dynamic = r.Int(2) == 0, r.Int(2) == 0
			x := r.Int(3)
			others := []string{"1", "2", "3"}
			others = slices.Delete(others, x, x+1)
			other := func() string { return "$" + others[r.Int(2)] + "$" }
			number := func() string { return "5:" + strconv.Itoa([]int{1, 2, -3, 1 << 30}[r.Int(4)]) }
			op := []string{"add", "get", "via", "twice", "safe", "bad", "link", "note", "pass", "many", "catches", "nothing"}[r.Int(12)]
			var args []string
			switch op {
			case "add", "note":
				args = []string{number()}
			case "bad", "many":
				args = []string{"5:" + []string{"", "1", "2", "5", "99", "101"}[r.Int(6)]}
			case "via", "safe", "pass":
				args = []string{other(), number()}
			case "twice":
				args = []string{other(), other()}
			case "catches":
				args = []string{[]string{other(), "16:", `16:"x"`}[r.Int(3)]}
			case "link":
				args = []string{v[r.Int(len(v))], "18:"}
			}
			if r.Int(10) == 0 {
				args = append(args, "5:1")
			}
			n, e := o.Call(r.Int(hosts), o.Objects()[x], op, graphs(o, args...), how)
			o.Pass(o.Now() + 100)
			out, e2 := o.Result(n)
			for i, target := range node.Objects() {
				for j := range args {
					args[j] = strings.ReplaceAll(args[j], "$"+strconv.Itoa(i+1)+"$", quoted(target))
				}
			}
			want, _ := node.Call(node.Objects()[x], op, graphs(o, args...), call.Roads()[r.Int(len(call.Roads()))])
			if e != api.OK || e2 != api.OK || !call.SameOutcome(out, want) || !o.Settled() {
				t.Fatal(op, args, show(out, e2), show(want, e))
			}
			for i, target := range node.Objects() {
				far, _ := o.Fields(o.Objects()[i])
				near, _ := node.Fields(target)
				if !slices.EqualFunc(far, near, data.Alike) {
					t.Fatal(op, args, far, near)
				}
			}
		}
	}
}

// numbers returns a list for a network.
func numbers(r *sample.Source, n int) []int {
	var l []int
	for range n {
		l = append(l, r.Int(1000000))
	}
	return l
}

// harm changes the network, or lets hosts fall and rise.
func harm(r *sample.Source, o *Orb, hosts int) {
	switch r.Int(6) {
	case 0:
		o.Fall(r.Int(hosts))
	case 1:
		o.Rise(r.Int(hosts))
	case 2:
		var sides []int
		for range hosts {
			sides = append(sides, r.Int(2))
		}
		o.Part(sides)
	case 3:
		o.Part(make([]int, hosts))
	default:
		from := r.Int(hosts)
		o.Link(from, (from+1+r.Int(hosts-1))%hosts, api.Link{Delay: r.Int(4), Jitter: r.Int(5), Loss: r.Int(60), Double: r.Int(60)})
	}
}

// heal lets all hosts be up, and reach each other, and the time go on.
func heal(o *Orb, hosts int) {
	o.Part(make([]int, hosts))
	for h := range hosts {
		o.Rise(h)
		for to := range hosts {
			o.Link(h, to, api.Link{Delay: 1})
		}
	}
	o.Pass(o.Now() + 10000)
}

func TestPromiseOnce(t *testing.T) {
	r := sample.New(330)
	for range 100 {
		hosts := 2 + r.Int(2)
		o := orb(t, hosts, numbers(r, 400), 0, 1)
		type one struct{ ticket, host, object, once, bit int }
		var calls []one
		bits := 0
		for range 40 {
			if r.Int(2) == 0 {
				harm(r, o, hosts)
			} else if bits < 20 {
				once := 1 + r.Int(2)
				how := api.How{Once: once, Big: r.Int(2) == 0}
				if once == 2 {
					how.Pause = 1 + r.Int(9)
				}
				host, object := r.Int(hosts), 1+r.Int(2)
				n, e := o.Call(host, o.Objects()[object-1], "add", graphs(o, "5:"+strconv.Itoa(1<<bits)), how)
				if e == api.OK {
					calls = append(calls, one{n, host, object, once, bits})
					bits++
				}
			}
			o.Pass(o.Now() + r.Int(6))
		}
		heal(o, hosts)
		all := 0
		for _, c := range calls {
			n, _ := strconv.Atoi(fields(o, c.object))
			isDone := n>>c.bit&1 == 1
			got := told(o, c.ticket)
			if isDone {
				all++
			}
			if c.once == 2 && got != "system fallen 2" && (!isDone || !strings.HasPrefix(got, "result | ")) {
				t.Fatal("not done, or not told", c, got)
			}
			if strings.HasPrefix(got, "result | ") && !isDone {
				t.Fatal("told, but not done", c, got)
			}
		}
		// No number was added twice: each bit comes of one call, and so many methods have ended.
		if ended(o, 1)+ended(o, 2) != all {
			t.Fatal(ended(o, 1), ended(o, 2), all)
		}
	}
}

func TestPromiseWithin(t *testing.T) {
	r := sample.New(331)
	overall := 0
	for range 70 {
		hosts := 3
		o := orb(t, hosts, numbers(r, 400), 0, 1, 2)
		for range 3 {
			n, e := o.Call(r.Int(hosts), o.Objects()[0], "twice", graphs(o, "$2$", "$3$"), once2(1+r.Int(9)))
			if e != api.OK {
				continue
			}
			for range 12 {
				if r.Int(2) == 0 {
					harm(r, o, hosts)
				}
				o.Pass(o.Now() + r.Int(6))
			}
			heal(o, hosts)
			got := told(o, n)
			if got == "!9" || !o.Settled() {
				t.Fatal(got)
			}
			if got != "system fallen 2" {
				overall++
			}
		}
		if e1, e2, e3 := ended(o, 1), ended(o, 2), ended(o, 3); e1 > 3 || e2 > 3 || e3 > e2 || e1 > e3 || fields(o, 2) != strconv.Itoa(e2) || fields(o, 3) != strconv.Itoa(e3) {
			t.Fatal(e1, e2, e3)
		}
	}
	if overall < 50 {
		t.Error(overall)
	}
}

func TestPromiseForwards(t *testing.T) {
	r := sample.New(332)
	for range 25 {
		on := []int{r.Int(3), r.Int(3), r.Int(3)}
		a, b := orb(t, 3, nil, on...), orb(t, 3, nil, on...)
		first := a.Objects()
		for range 20 {
			if r.Int(2) == 0 {
				b.Move(first[r.Int(3)], r.Int(3))
			}
			x, y := r.Int(3), r.Int(3)
			op := []string{"via", "note", "get", "safe", "pass", "me"}[r.Int(6)]
			args := map[string][]string{"via": {quoted(first[y]), "5:3"}, "safe": {quoted(first[y]), "5:3"}, "pass": {quoted(first[y]), "5:3"}, "note": {"5:2"}}[op]
			how := api.How{Once: r.Int(2)}
			host := r.Int(3)
			n, _ := a.Call(host, first[x], op, graphs(a, args...), how)
			m, _ := b.Call(host, first[x], op, graphs(b, args...), how)
			a.Pass(a.Now() + 100)
			b.Pass(b.Now() + 100)
			if told(a, n) != told(b, m) || told(a, n) == "!9" || fields(a, 1)+fields(a, 2)+fields(a, 3) != fields(b, 1)+fields(b, 2)+fields(b, 3) {
				t.Fatal(op, args, told(a, n), told(b, m))
			}
		}
	}
}

func TestPromiseSame(t *testing.T) {
	run := func(seed int) string {
		r := sample.New(seed)
		o := orb(t, 3, numbers(r, 300), 0, 1, 2, 1)
		s := ""
		for range 60 {
			switch r.Int(4) {
			case 0:
				harm(r, o, 3)
			case 1:
				o.Move(o.Objects()[r.Int(4)], r.Int(3))
			default:
				x := r.Int(4)
				how := []api.How{{}, {Once: 1, Limit: 40}, {Once: 2, Pause: 3}, {Once: 2, Pause: 7, Limit: 20}}[r.Int(4)]
				o.Call(r.Int(3), o.Objects()[x], "twice", graphs(o, "$"+strconv.Itoa(1+r.Int(4))+"$", "$"+strconv.Itoa(1+r.Int(4))+"$"), how)
			}
			o.Pass(o.Now() + r.Int(8))
			s += fmt.Sprintln(o.Counts())
		}
		for n := range o.tickets {
			s += told(o, n+1) + "\n"
		}
		for i := range o.objects {
			s += fields(o, i+1) + " " + strconv.Itoa(ended(o, i+1)) + "\n"
		}
		return s
	}
	for seed := range 6 {
		if a, b := run(3330+seed), run(3330+seed); a != b {
			t.Fatal(a, b)
		}
	}
}

func TestPromiseParted(t *testing.T) {
	r := sample.New(334)
	all := 0
	for range 10 {
		// The hosts 2 and 3 call each other, the hosts 0 and 1 nobody.
		o := orb(t, 4, numbers(r, 300), 0, 1, 2, 3)
		for range 30 {
			harm(r, o, 4)
			how := []api.How{{}, {Once: 1}, {Once: 2, Pause: 4}}[r.Int(3)]
			a, b := 3+r.Int(2), 3+r.Int(2)
			o.Call(2+r.Int(2), o.Objects()[a-1], "via", graphs(o, "$"+strconv.Itoa(b)+"$", "5:1"), how)
			o.Pass(o.Now() + r.Int(8))
		}
		for i := range 2 {
			if fields(o, i+1) != "0" || ended(o, i+1) != 0 || text(o.Remembered(i)) != "0" {
				t.Fatal("changed by another host")
			}
		}
		all += ended(o, 3) + ended(o, 4)
	}
	if all < 20 {
		t.Error(all)
	}
}

func TestMemory(t *testing.T) {
	o := orb(t, 1, nil, 0)
	args := graphs(o, "17:; V:1.0 (17: 5:3)", "18:")
	n, _ := o.Call(0, o.Objects()[0], "link", args, once1)
	args[0].Nodes[0].Kids[1].N = 9
	out, e := o.Result(n)
	if e != api.OK || len(out.Data) != 3 {
		t.Fatal(show(out, e))
	}
	out.Data[0].Nodes[0].Kids[1].N = 8
	l, _ := o.Fields(o.Objects()[0])
	l[1].Nodes[0].Kids[1].N = 7
	again, _ := o.Result(n)
	if l, _ := o.Fields(o.Objects()[0]); data.Format(l[1]) != "17:; V:1.0 (17: 5:3)" || data.Format(again.Data[0]) != "17:; V:1.0 (17: 5:3)" {
		t.Error("memory is shared", data.Format(l[1]), data.Format(again.Data[0]))
	}
}
