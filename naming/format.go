package naming

import (
	"strconv"
	"strings"

	"intermede/api"
)

// quoted writes an object.
func quoted(s string) string {
	return `"` + strings.NewReplacer(`"`, `\"`, `\`, `\\`, "\n", `\n`).Replace(s) + `"`
}

// Format writes a store.
func (s *Store) Format() string {
	if s.asked(true, 0) != api.OK {
		return ""
	}
	var b strings.Builder
	b.WriteString("next " + strconv.Itoa(s.next) + "\n")
	for _, n := range s.Contexts() {
		b.WriteString("context " + strconv.Itoa(n) + "\n")
		for c, x := range s.contexts[n].sorted() {
			switch y := x.(type) {
			case object:
				b.WriteString("  object " + partText(c) + " " + quoted(string(y)) + "\n")
			case context:
				b.WriteString("  context " + partText(c) + " " + strconv.Itoa(int(y)) + "\n")
			}
		}
	}
	return b.String()
}

// number reads a decimal without leading zeros.
func number(s string) (int, bool) {
	n, err := strconv.Atoi(s)
	return n, err == nil && n >= 0 && strconv.Itoa(n) == s
}

// reader reads the lines of a store.
type reader struct {
	s       *Store
	context int // the one whose bindings are read, -1 before the first one
	last    api.Component
}

// Read reads a store; line is that of the first one with which no store begins.
func Read(text string) (s *Store, line int, e api.Errno) {
	if len(text) > api.MaxText {
		return nil, 0, api.ErrLong
	}
	r := &reader{s: New(), context: -1}
	delete(r.s.contexts, 0)
	lines := strings.SplitAfter(text, "\n")
	for i, l := range lines {
		l, whole := strings.CutSuffix(l, "\n")
		if l == "" && !whole && i > 1 { // behind the last line
			break
		}
		if !whole || !r.line(i, l) {
			return nil, i, api.ErrSyntax
		}
	}
	return r.s, 0, api.OK
}

// line reads a line.
func (r *reader) line(i int, l string) bool {
	words := strings.SplitN(l, " ", 3)
	if i == 0 {
		n, ok := 0, false
		if len(words) == 2 && words[0] == "next" {
			n, ok = number(words[1])
		}
		r.s.next = n
		return ok && n >= 1
	}
	if rest, inner := strings.CutPrefix(l, "  "); inner {
		return r.context >= 0 && r.binding(rest)
	}
	if len(words) != 2 || words[0] != "context" {
		return false
	}
	n, ok := number(words[1])
	if !ok || n <= r.context || n >= r.s.next || r.context < 0 && n != 0 || len(r.s.contexts) == maxContexts {
		return false
	}
	r.context, r.last = n, api.Component{}
	r.s.contexts[n] = bindings{}
	return true
}

// binding reads a binding of the present context: they ascend.
func (r *reader) binding(l string) bool {
	words := strings.SplitN(l, " ", 3)
	if len(words) != 3 {
		return false
	}
	name, e := Parse(words[1])
	if e != api.OK || len(name) != 1 || order(name[0], r.last) <= 0 || r.s.count == maxBindings {
		return false
	}
	var x bound
	switch words[0] {
	case "object":
		s, ok := unquoted(words[2])
		if !ok {
			return false
		}
		x = object(s)
	case "context":
		n, ok := number(words[2])
		if !ok || n >= r.s.next {
			return false
		}
		x = context(n)
	default:
		return false
	}
	r.last = name[0]
	r.s.contexts[r.context][r.last] = x
	r.s.count++
	return true
}

// unquoted reads an object.
func unquoted(s string) (string, bool) {
	var b []byte
	for i := 1; i < len(s)-1; i++ {
		c := s[i]
		if c == '\\' {
			i++
			if c = s[i]; c == 'n' {
				c = '\n'
			}
		}
		b = append(b, c)
	}
	return string(b), quoted(string(b)) == s
}
