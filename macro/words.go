package macro

import (
	"iter"
	"strings"

	"intermede/api"
)

func isDigit(c byte) bool { return c >= '0' && c <= '9' }

func begins(c byte) bool { return c >= 'a' && c <= 'z' || c >= 'A' && c <= 'Z' || c == '_' }

func goesOn(c byte) bool { return begins(c) || isDigit(c) }

// run returns the index behind the bytes of a sort, from an index on.
func run(s string, i int, in func(byte) bool) int {
	for i < len(s) && in(s[i]) {
		i++
	}
	return i
}

// quoted returns the index behind a text that begins at an index: it ends with its line at the latest.
func quoted(s string, i int) int {
	for i++; i < len(s); i++ {
		if s[i] == '\\' {
			i++
		} else if s[i] == '"' {
			return i + 1
		}
	}
	return len(s)
}

// word is a word of a line with its index.
type word struct {
	text string
	at   int
}

func scan(s string) []word {
	var l []word
	for i := 0; i < len(s); {
		if s[i] == ' ' || s[i] == '\t' {
			i++
			continue
		}
		end := wordEnd(s, i)
		l = append(l, word{s[i:end], i})
		i = end
	}
	return l
}

func wordEnd(s string, i int) int {
	switch c := s[i]; {
	case begins(c):
		return run(s, i, goesOn)
	case isDigit(c):
		return run(s, i, func(c byte) bool { return goesOn(c) || c == '.' })
	case c == '"':
		return quoted(s, i)
	}
	if i+1 < len(s) {
		switch s[i : i+2] {
		case "&&", "||", "==", "!=", "<=", ">=":
			return i + 2
		}
	}
	return i + 1
}

func texts(l []word) []string {
	var out []string
	for _, w := range l {
		out = append(out, w.text)
	}
	return out
}

// spaced returns the words of a line with single blanks.
func spaced(l []word) string { return strings.Join(texts(l), " ") }

func isName(s string) bool { return s != "" && begins(s[0]) && run(s, 0, goesOn) == len(s) }

// line is a line without remarks, with its number; open tells that a remark in it does not end.
type line struct {
	number int
	text   string
	open   bool
}

// joined goes through the lines of a text: those that end with a backslash are joined with the next one.
func joined(text string) iter.Seq2[int, string] {
	return func(yield func(int, string) bool) {
		number, first := 1, 1
		var b strings.Builder
		for i := 0; i < len(text); i++ {
			switch {
			case text[i] == '\\' && i+1 < len(text) && text[i+1] == '\n':
				i++
				number++
				if i+1 < len(text) {
					continue
				}
			case text[i] != '\n':
				b.WriteByte(text[i])
				if i+1 < len(text) {
					continue
				}
			}
			if !yield(first, b.String()) {
				return
			}
			b.Reset()
			number++
			first = number
		}
	}
}

// lines goes through the lines of a text without their remarks.
func lines(text string) iter.Seq[line] {
	return func(yield func(line) bool) {
		first, open := 0, false
		var b strings.Builder
		for number, s := range joined(text) {
			if !open {
				first = number
				b.Reset()
			}
			open = strip(&b, s, open)
			if !open && !yield(line{number: first, text: b.String()}) {
				return
			}
		}
		if open {
			yield(line{number: first, text: b.String(), open: true})
		}
	}
}

// strip takes the remarks out of a line; it tells whether one is open at its beginning, and at its end.
func strip(b *strings.Builder, s string, open bool) bool {
	for i := 0; i < len(s); {
		switch {
		case open:
			end := strings.Index(s[i:], "*/")
			if end < 0 {
				return true
			}
			i += end + 2
			open = false
		case strings.HasPrefix(s[i:], "/*"):
			b.WriteByte(' ')
			i += 2
			open = true
		case strings.HasPrefix(s[i:], "//"):
			b.WriteByte(' ')
			return false
		case s[i] == '"':
			end := quoted(s, i)
			b.WriteString(s[i:end])
			i = end
		default:
			b.WriteByte(s[i])
			i++
		}
	}
	return open
}

// Words returns the words of a line.
func Words(line string) ([]string, api.Errno) {
	if isLong(line) {
		return nil, api.ErrLong
	}
	return texts(scan(line)), api.OK
}

// isLong reports whether a text can't be a line.
func isLong(s string) bool {
	return len(s) > api.MaxText || strings.IndexByte(s, '\n') >= 0
}

// maxLines is the most lines that come out.
const maxLines = 2000

// Lines returns the lines of one text, joined and without remarks.
func Lines(text string) ([]api.Row, api.Errno) {
	if len(text) > api.MaxText {
		return nil, api.ErrLong
	}
	var rows []api.Row
	for l := range lines(text) {
		s := spaced(scan(l.text))
		switch {
		case l.open:
			return nil, api.ErrSyntax
		case len(rows) == maxLines, len(s) > api.MaxText:
			return nil, api.ErrLimit
		}
		rows = append(rows, api.Row{Text: s, Origin: api.Origin{Line: l.number}})
	}
	return rows, api.OK
}
