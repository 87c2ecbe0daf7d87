package data

import (
	"strconv"
	"strings"

	"intermede/api"
	"intermede/kind"
)

const hex = "0123456789abcdef"

// plain reports whether a byte stands for itself within quotes.
func plain(c byte) bool {
	return c >= ' ' && c <= '~' && c != '"' && c != '\\'
}

// Format writes a graph.
func Format(g api.Graph) string {
	if !loose(&g) {
		return ""
	}
	w := &writer{}
	w.data(&g.Root)
	for i := range g.Nodes {
		w.wrong = w.wrong || !kind.ID(g.Nodes[i].ID)
		w.WriteString("; " + g.Nodes[i].ID + " ")
		w.kids(g.Nodes[i].Kids)
	}
	if w.wrong {
		return ""
	}
	return w.String()
}

// writer writes data; what has no text is wrong.
type writer struct {
	strings.Builder
	wrong bool
}

func (w *writer) data(d *api.Data) {
	w.WriteString(strconv.Itoa(d.Kind) + ":")
	if d.N != 0 {
		w.WriteString(strconv.Itoa(d.N))
	}
	if d.S != "" {
		w.quoted(d.S)
	}
	w.kids(d.Kids)
	for _, t := range d.Types {
		text := kind.Format(t)
		w.wrong = w.wrong || text == ""
		w.WriteString("[" + text + "]")
	}
}

func (w *writer) kids(l []api.Data) {
	sign := byte('(')
	for i := range l {
		w.WriteByte(sign)
		w.data(&l[i])
		sign = ' '
	}
	if len(l) > 0 {
		w.WriteByte(')')
	}
}

func (w *writer) quoted(s string) {
	w.WriteByte('"')
	for i := range len(s) {
		if plain(s[i]) {
			w.WriteByte(s[i])
		} else {
			w.WriteString(`\x` + hex[s[i]>>4:s[i]>>4+1] + hex[s[i]&15:s[i]&15+1])
		}
	}
	w.WriteByte('"')
}

// stop is what a reader panics with: the index of the first byte with which nothing right begins.
type stop int

// reader reads the form of graphs. What is wrong by validity alone is asked behind it.
type reader struct {
	s    string
	at   int
	over bool // something is there that no graph has: a number out of int, a type that is not valid
}

// Parse reads a graph; at is the index of the first wrong byte.
func Parse(text string) (g api.Graph, at int, e api.Errno) {
	if len(text) > api.MaxText {
		return api.Graph{}, 0, api.ErrLong
	}
	defer func() {
		switch p := recover().(type) {
		case nil:
		case stop:
			g, at, e = api.Graph{}, int(p), api.ErrSyntax
		default:
			g, at, e = api.Graph{}, 0, api.ErrSyntax
		}
	}()
	r := &reader{s: text}
	g.Root = r.data()
	for r.at < len(text) {
		g.Nodes = append(g.Nodes, r.node())
	}
	if r.over || Format(g) != text {
		panic(stop(len(text)))
	}
	return g, 0, api.OK
}

// is takes a byte, if it is the next one.
func (r *reader) is(c byte) bool {
	if r.at < len(r.s) && r.s[r.at] == c {
		r.at++
		return true
	}
	return false
}

func (r *reader) must(c byte) {
	if !r.is(c) {
		panic(stop(r.at))
	}
}

// peek reports whether the next byte is between two others.
func (r *reader) peek(from, to byte) bool {
	return r.at < len(r.s) && r.s[r.at] >= from && r.s[r.at] <= to
}

// number takes a number that is not 0.
func (r *reader) number() int {
	from := r.at
	r.is('-')
	if !r.peek('1', '9') {
		panic(stop(r.at))
	}
	for r.peek('0', '9') {
		r.at++
	}
	n, err := strconv.Atoi(r.s[from:r.at])
	r.over = r.over || err != nil
	return n
}

func (r *reader) node() api.Node {
	r.must(';')
	r.must(' ')
	from := r.at
	for r.at < len(r.s) && kind.ID(r.s[r.at:r.at+1]) {
		r.at++
	}
	n := api.Node{ID: r.s[from:r.at]}
	if n.ID == "" {
		panic(stop(r.at))
	}
	r.must(' ')
	n.Kids = r.kids()
	return n
}

func (r *reader) kids() []api.Data {
	if !r.is('(') {
		return nil
	}
	l := []api.Data{r.data()}
	for !r.is(')') {
		r.must(' ')
		l = append(l, r.data())
	}
	return l
}

func (r *reader) data() api.Data {
	var d api.Data
	if !r.is('0') {
		d.Kind = r.number()
	}
	r.must(':')
	if r.peek('-', '-') || r.peek('1', '9') {
		d.N = r.number()
	}
	if r.is('"') {
		d.S = r.quoted()
	}
	d.Kids = r.kids()
	for r.is('[') {
		d.Types = append(d.Types, r.typ())
	}
	return d
}

// quoted takes a text behind its first quote: it is not empty, as an empty one is not written.
func (r *reader) quoted() string {
	var b []byte
	for len(b) == 0 || !r.is('"') {
		if r.at < len(r.s) && plain(r.s[r.at]) {
			b = append(b, r.s[r.at])
			r.at++
			continue
		}
		r.must('\\')
		r.must('x')
		upper := r.digit(func(n int) bool { return n < 3 || n == 5 || n >= 7 })
		b = append(b, byte(upper<<4|r.digit(func(n int) bool { return !plain(byte(upper<<4 | n)) })))
	}
	return string(b)
}

// digit takes a hexadecimal digit that may stand here.
func (r *reader) digit(may func(int) bool) int {
	n := -1
	if r.at < len(r.s) {
		n = strings.IndexByte(hex, r.s[r.at])
	}
	if n < 0 || !may(n) {
		panic(stop(r.at))
	}
	r.at++
	return n
}

// typ takes a type and the bracket behind it. Layer 3 tells where the type ends: at the bracket, with which no type goes on.
func (r *reader) typ() api.Type {
	rest := r.s[r.at:]
	_, n, e := kind.Parse(rest)
	if e == api.OK || n == len(rest) {
		panic(stop(len(r.s)))
	}
	t, _, e := kind.Parse(rest[:n])
	if rest[n] != ']' || e != api.OK && !whole(rest[:n]) {
		panic(stop(r.at + n))
	}
	r.over = r.over || e != api.OK
	r.at += n + 1
	return t
}

// whole reports whether a text is a type by its form, not only the beginning of one: then it can stand as elements and as a member.
// (Of what lacks something no text may go on with both signs.)
func whole(text string) bool {
	for _, around := range [2][2]string{{"seq<", ">"}, {"struct a A{b ", ";}"}} {
		s := around[0] + text + around[1]
		if _, at, e := kind.Parse(s); e != api.OK && at < len(s) {
			return false
		}
	}
	return true
}
