package host

import (
	"strconv"
	"strings"

	"intermede/api"
	"intermede/data"
)

// The limits of lines and books.
const (
	maxLine   = 200
	maxNumber = 1000000000
	maxPass   = 100000 // how far a line lets the time go on
	maxBook   = 200000
)

// separator stands before each argument of a call, and before each graph that is told.
const separator = " | "

// command is a line that was read: its first word, its other words and its numbers, and the arguments of a call.
type command struct {
	first   string
	words   []string
	numbers []int
	args    []api.Graph
}

// deed is what a line does, and its form: what stands behind its first word, a word (w), a number (n), a time (t), 0, 1 or 2 (o) or numbers to the end (*).
type deed struct {
	form string
	do   func(*Host, *command) string
}

func deeds() map[string]deed {
	return map[string]deed{
		"make": {"nw", (*Host).make}, "call": {"nnwo", (*Host).call}, "pass": {"t", (*Host).pass}, "result": {"n", (*Host).result},
		"fall": {"n", (*Host).fall}, "rise": {"n", (*Host).rise}, "part": {"n*", (*Host).part}, "link": {"nnnnnn", (*Host).link},
		"move": {"nn", (*Host).move}, "fields": {"n", (*Host).fields}, "ended": {"n", (*Host).ended},
	}
}

// number reads a number from 0 to most.
func number(s string, most int) (int, bool) {
	n, err := strconv.Atoi(s)
	return n, err == nil && n >= 0 && n <= most && strconv.Itoa(n) == s
}

// put reads a word that stands where a form has a letter.
func (c *command) put(word string, letter byte) bool {
	most := maxNumber
	switch letter {
	case 'w':
		c.words = append(c.words, word)
		return word != ""
	case 't':
		most = maxPass
	case 'o':
		most = 2
	}
	n, ok := number(word, most)
	c.numbers = append(c.numbers, n)
	return ok
}

// fits reads words by a form.
func (c *command) fits(words []string, form string) bool {
	for len(form) > 0 && form[0] != '*' {
		if len(words) == 0 || !c.put(words[0], form[0]) {
			return false
		}
		words, form = words[1:], form[1:]
	}
	for _, word := range words {
		if form == "" || !c.put(word, 'n') {
			return false
		}
	}
	return true
}

// arguments reads what stands behind the words of a call; within quotes a separator is none.
func (c *command) arguments(s string) bool {
	for s != "" {
		s = s[len(separator):]
		end, quoted := 0, false
		for end < len(s) && (quoted || !strings.HasPrefix(s[end:], separator)) {
			quoted = quoted != (s[end] == '"')
			end++
		}
		g, _, e := data.Parse(s[:end])
		if e != api.OK {
			return false
		}
		c.args = append(c.args, g)
		s = s[end:]
	}
	return true
}

// read reads a line; nil if it is none.
func read(line string) *command {
	if len(line) > maxLine {
		return nil
	}
	for i := range len(line) {
		if line[i] < ' ' || line[i] > '~' {
			return nil
		}
	}
	first, _, _ := strings.Cut(line, " ")
	args := len(line)
	if first == "call" {
		if i := strings.Index(line, separator); i >= 0 {
			args = i
		}
	}
	c := &command{first: first}
	d, there := deeds()[first]
	if !there || !c.fits(strings.Split(line[:args], " ")[1:], d.form) || !c.arguments(line[args:]) {
		return nil
	}
	return c
}

// Valid reports whether a text is a line by its form.
func Valid(line string) bool { return read(line) != nil }

// hex writes a sum in 16 digits.
func hex(sum uint64) string {
	s := strconv.FormatUint(sum, 16)
	return strings.Repeat("0", 16-len(s)) + s
}

// following returns the line of a book that has a text and comes behind others.
func following(book []api.Line, text string) api.Line {
	before := uint64(0)
	if len(book) > 0 {
		before = book[len(book)-1].Sum
	}
	sum := uint64(14695981039346656037)
	for _, c := range []byte(hex(before) + " " + text) {
		sum = (sum ^ uint64(c)) * 1099511628211
	}
	return api.Line{Number: len(book), Text: text, Sum: sum}
}

// show writes a line of a book.
func show(l api.Line) string {
	return strconv.Itoa(l.Number) + " " + hex(l.Sum) + " " + l.Text + "\n"
}

// Lines reads a book.
func Lines(book string) (l []api.Line, torn bool, e api.Errno) {
	if len(book) > maxBook {
		return nil, false, api.ErrLong
	}
	for book != "" {
		s, rest, whole := strings.Cut(book, "\n")
		if !whole {
			return l, true, api.OK
		}
		words := strings.SplitN(s, " ", 3)
		text := words[len(words)-1]
		line := following(l, text)
		switch {
		case show(line) != s+"\n" || !Valid(text):
			return l, false, api.ErrSum
		case line.Number == api.MaxLines:
			return nil, false, api.ErrLimit
		}
		l = append(l, line)
		book = rest
	}
	return l, false, api.OK
}
