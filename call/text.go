package call

import (
	"strconv"
	"strings"

	"intermede/api"
)

// Text returns all objects in a form of their own: how many were made, and each with its number, its class and its fields, texts behind their lengths.
func (n *Node) Text() string {
	if n == nil {
		return ""
	}
	var b strings.Builder
	b.WriteString(strconv.Itoa(n.last) + " ")
	for _, o := range n.objects {
		b.WriteString(strconv.Itoa(o.number) + " ")
		for _, s := range []string{o.Class(), o.Servant.Text()} {
			b.WriteString(strconv.Itoa(len(s)) + " " + s)
		}
	}
	return b.String()
}

// reader reads what Text writes; ok is false behind what is wrong.
type reader struct {
	s  string
	ok bool
}

func (r *reader) number() int {
	word, rest, found := strings.Cut(r.s, " ")
	n, err := strconv.Atoi(word)
	r.ok = r.ok && found && err == nil && n >= 0 && strconv.Itoa(n) == word
	r.s = rest
	return n
}

func (r *reader) text() string {
	n := r.number()
	if !r.ok || n > len(r.s) {
		r.ok = false
		return ""
	}
	s := r.s[:n]
	r.s = r.s[n:]
	return s
}

// Restore makes a node have the objects of a text.
func (n *Node) Restore(text string) api.Errno {
	if n == nil {
		return api.ErrInvalid
	}
	r := &reader{text, true}
	last := r.number()
	var objects []*object
	before := 0
	for r.ok && r.s != "" {
		number := r.number()
		c := n.class(r.text())
		fields := r.text()
		if !r.ok || c == nil || number <= before || number > last || len(objects) >= maxObjects {
			return api.ErrSyntax
		}
		o, e := n.made(c, number)
		if e != api.OK || o.Servant.Restore(fields) != api.OK {
			return api.ErrSyntax
		}
		objects = append(objects, o)
		before = number
	}
	if !r.ok {
		return api.ErrSyntax
	}
	n.objects, n.last = objects, last
	return api.OK
}
