package cause

import (
	"strconv"
	"strings"

	"intermede/api"
)

// words are what is written for the kinds of events.
var words = [ends + 1]string{alone: "do", sends: "send", receives: "receive", begins: "begin", ends: "end"}

func quoted(s string) string {
	return `"` + strings.NewReplacer(`\`, `\\`, `"`, `\"`, "\n", `\n`).Replace(s) + `"`
}

func unquoted(s string) string {
	return strings.NewReplacer(`\\`, `\`, `\"`, `"`, `\n`, "\n").Replace(s)
}

// show writes an event.
func show(a api.Act) string {
	s := strconv.Itoa(a.Node) + " " + words[a.Kind] + " "
	if a.Kind != alone {
		s += strconv.Itoa(a.Message+a.Call) + " "
	}
	return s + quoted(a.Text)
}

func head(n int) string { return "nodes " + strconv.Itoa(n) }

// Format writes a history.
func Format(n int, l []api.Act) string {
	if !Valid(n, l) {
		return ""
	}
	var b strings.Builder
	b.WriteString(head(n) + "\n")
	for _, a := range l {
		b.WriteString(show(a) + "\n")
	}
	return b.String()
}

// Parse reads a history, or tells the first line that is none of one.
func Parse(text string) (n int, l []api.Act, line int, e api.Errno) {
	if len(text) > api.MaxText {
		return 0, nil, 0, api.ErrLong
	}
	var k *checker
	for line = 0; line == 0 || text != ""; line++ {
		s, rest, ended := strings.Cut(text, "\n")
		ok := ended
		switch {
		case !ok:
		case line == 0:
			n, _ = strconv.Atoi(strings.TrimPrefix(s, "nodes "))
			ok = isNodes(n) && s == head(n)
			k = newChecker(n)
		default:
			var a api.Act
			a, ok = parse(s)
			ok = ok && len(l) < maxEvents && k.add(a) == api.OK
			l = append(l, a)
		}
		if !ok {
			return 0, nil, line, api.ErrSyntax
		}
		text = rest
	}
	return n, l, 0, api.OK
}

// parse reads an event.
func parse(s string) (api.Act, bool) {
	first, text, _ := strings.Cut(s, `"`)
	l := strings.Split(first, " ")
	if len(l) < 3 {
		return api.Act{}, false
	}
	a := api.Act{Text: unquoted(strings.TrimSuffix(text, `"`))}
	a.Node, _ = strconv.Atoi(l[0])
	number, _ := strconv.Atoi(l[2])
	for kind := alone; kind <= ends; kind++ {
		if words[kind] != l[1] {
			continue
		}
		a.Kind = kind
		switch kind {
		case sends, receives:
			a.Message = number
		case begins, ends:
			a.Call = number
		}
	}
	// What is written in another way is not what Format writes.
	return a, a.Kind != 0 && show(a) == s
}
