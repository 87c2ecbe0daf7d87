// Package naming keeps names of objects in contexts.
package naming

import (
	"cmp"
	"strings"

	"intermede/api"
)

// maxComponents is the most components of a name.
const maxComponents = 20

func isPart(s string) bool {
	for i := range len(s) {
		if s[i] < 33 || s[i] > 126 {
			return false
		}
	}
	return len(s) <= api.MaxName
}

func isComponent(c api.Component) bool {
	return isPart(c.ID) && isPart(c.Kind) && c != (api.Component{})
}

// Valid reports whether components are a name.
func Valid(n []api.Component) bool {
	if len(n) < 1 || len(n) > maxComponents {
		return false
	}
	for _, c := range n {
		if !isComponent(c) {
			return false
		}
	}
	return true
}

func escaped(s string) string {
	return strings.NewReplacer(".", `\.`, "/", `\/`, `\`, `\\`).Replace(s)
}

// partText writes a component.
func partText(c api.Component) string {
	if c.Kind == "" {
		return escaped(c.ID)
	}
	return escaped(c.ID) + "." + escaped(c.Kind)
}

func nameText(n []api.Component) string {
	var l []string
	for _, c := range n {
		l = append(l, partText(c))
	}
	return strings.Join(l, "/")
}

// Text writes a name.
func Text(n []api.Component) (string, api.Errno) {
	if !Valid(n) {
		return "", api.ErrInvalid
	}
	return nameText(n), api.OK
}

// Parse reads a name.
func Parse(text string) ([]api.Component, api.Errno) {
	if len(text) > api.MaxText {
		return nil, api.ErrLong
	}
	// The parts of components stand one after the other: with a point before it a part is a kind.
	n := []api.Component{{}}
	var part []byte
	inKind := false
	end := func() {
		last := &n[len(n)-1]
		if inKind {
			last.Kind = string(part)
		} else {
			last.ID = string(part)
		}
		part = nil
	}
	for i := 0; i < len(text); i++ {
		switch c := text[i]; {
		case c == '\\' && i+1 < len(text):
			i++
			part = append(part, text[i])
		case c == '.' && !inKind:
			end()
			inKind = true
		case c == '/':
			end()
			inKind = false
			n = append(n, api.Component{})
		default:
			part = append(part, c)
		}
	}
	end()
	// What is written otherwise is no text of a name: needless backslashes and points.
	if !Valid(n) || nameText(n) != text {
		return nil, api.ErrSyntax
	}
	return n, api.OK
}

// Compare orders components by their IDs, then by their kinds; what is no component has no order.
func Compare(a, b api.Component) int {
	if !isComponent(a) || !isComponent(b) {
		return 0
	}
	return order(a, b)
}

// order also takes the empty component, which stands ahead of all.
func order(a, b api.Component) int {
	return cmp.Or(strings.Compare(a.ID, b.ID), strings.Compare(a.Kind, b.Kind))
}
