package tree

import (
	"strings"

	"intermede/api"
	"intermede/idl"
)

// The sorts of words.
const (
	aName       = iota
	anOperation // a name with an underscore before it
	aKept
	aNumber
	aText
	aSign
	noWord // bytes that begin none
	theEnd
)

// word is a word of a text, with its index and the number of its line.
type word struct {
	text string
	sort int
	at   int
	line int
}

// isKept reports whether a word is no name, besides those of layer 7.
func isKept(word string) bool {
	switch word {
	case "class", "of", "field", "op", "var", "return", "raise", "call", "if", "else", "while", "try", "catch", "or", "and", "not", True, False, Nil, Self:
		return true
	}
	return false
}

func inWord(c byte) bool {
	return c >= 'a' && c <= 'z' || c >= 'A' && c <= 'Z' || c >= '0' && c <= '9' || c == '_'
}

// run returns the index behind the bytes of a sort, from an index on.
func run(s string, i int, in func(byte) bool) int {
	for i < len(s) && in(s[i]) {
		i++
	}
	return i
}

// isName reports whether a text is a name: layer 7 takes it as a path.
func isName(s string) bool {
	_, l, e := idl.Split(s)
	return e == api.OK && len(l) == 1 && l[0] == s && !isKept(s)
}

// isOne reports whether a text is just one word of layer 7.
func isOne(s string) bool {
	l, _, e := idl.Words(s)
	return e == api.OK && len(l) == 1 && l[0] == s
}

// sortOf tells the sort of a run of letters, digits and underscores.
func sortOf(s string) int {
	switch {
	case isName(s):
		return aName
	case s[0] == '_' && isName(s[1:]):
		return anOperation
	case !isOne(s):
		return noWord
	case s[0] >= '0' && s[0] <= '9':
		return aNumber
	}
	return aKept
}

// wordAt returns the word that begins at an index.
func wordAt(s string, i int) (text string, sort int) {
	if inWord(s[i]) {
		text = s[i:run(s, i, inWord)]
		return text, sortOf(text)
	}
	if s[i] == '"' {
		end := run(s, i+1, func(c byte) bool { return c != '"' && c != '\n' })
		text = s[i:min(end+1, len(s))]
		if !isOne(text) {
			return s[i:end], noWord
		}
		return text, aText
	}
	for _, sign := range [...]string{"::", "==", "!=", "<=", ">=", "<<", ">>"} {
		if strings.HasPrefix(s[i:], sign) {
			return sign, aSign
		}
	}
	if strings.IndexByte("{}();:,<>=|^&+-*/%~.", s[i]) >= 0 {
		return s[i : i+1], aSign
	}
	return s[i : i+1], noWord
}

// words returns the words of a text up to the first bytes that are none; the last one tells the end.
func words(s string) []word {
	var l []word
	line, last := 0, 0 // last is the line of the last byte
	for i := 0; i < len(s); {
		last = line
		switch {
		case s[i] == '\n':
			line++
			i++
		case s[i] == ' ' || s[i] == '\t' || s[i] == '\r':
			i++
		case strings.HasPrefix(s[i:], "//"):
			i = run(s, i, func(c byte) bool { return c != '\n' })
		default:
			text, sort := wordAt(s, i)
			l = append(l, word{text, sort, i, line})
			if sort == noWord {
				return l
			}
			i += len(text)
		}
	}
	return append(l, word{sort: theEnd, at: len(s), line: last})
}
