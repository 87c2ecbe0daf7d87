package idl

import (
	"iter"
	"strconv"
	"strings"

	"intermede/api"
)

// maxQuoted is the most bytes of a text between quotes.
const maxQuoted = 200

// The sorts of words.
const (
	aName = iota
	aKept
	aNumber
	aText
	aSign
	noWord // bytes that begin none
	theEnd
)

// word is a word with the number of its line.
type word struct {
	text string
	sort int
	line int
}

// isKept reports whether a word is no name.
func isKept(word string) bool {
	switch word {
	case "module", "interface", "struct", "exception", "union", "switch", "case", "default", "enum", "typedef", "const", "valuetype", "truncatable", "oneway", "readonly", "attribute", "in", "out", "inout", "raises", "version",
		"void", "boolean", "octet", "char", "short", "long", "huge", "string", "fixed", "sequence", "array", "any", "type", "Object":
		return true
	}
	return false
}

func isLetter(c byte) bool { return c >= 'a' && c <= 'z' || c >= 'A' && c <= 'Z' }

func isDigit(c byte) bool { return c >= '0' && c <= '9' }

func inWord(c byte) bool { return isLetter(c) || isDigit(c) || c == '_' }

func inQuotes(c byte) bool { return c >= ' ' && c <= '~' && c != '"' && c != '\\' }

// run returns the index behind the bytes of a sort, from an index on.
func run(s string, i int, in func(byte) bool) int {
	for i < len(s) && in(s[i]) {
		i++
	}
	return i
}

// wordAt returns the word that begins at an index.
func wordAt(s string, i int) (text string, sort int) {
	switch c := s[i]; {
	case isLetter(c):
		text = s[i:run(s, i, inWord)]
		switch {
		case isKept(text):
			return text, aKept
		case len(text) > api.MaxName:
			return text, noWord
		}
		return text, aName
	case isDigit(c):
		text = s[i:run(s, i, inWord)]
		if _, ok := number(text); !ok {
			return text, noWord
		}
		return text, aNumber
	case c == '"':
		end := run(s, i+1, inQuotes)
		if end == len(s) || s[end] != '"' || end-i-1 > maxQuoted {
			return s[i:end], noWord
		}
		return s[i : end+1], aText
	}
	for _, sign := range [...]string{"::", "<<", ">>"} {
		if strings.HasPrefix(s[i:], sign) {
			return sign, aSign
		}
	}
	if strings.IndexByte("{}();:,<>=|^&+-*/%~.", s[i]) >= 0 {
		return s[i : i+1], aSign
	}
	return s[i : i+1], noWord
}

// number returns the value of a whole number.
func number(s string) (int, bool) {
	digits, base := s, 10
	if strings.HasPrefix(s, "0x") {
		digits, base = s[2:], 16
	} else if len(s) > 1 && s[0] == '0' {
		return 0, false
	}
	if strings.Trim(digits, "0123456789abcdef") != "" || digits == "" {
		return 0, false
	}
	n, err := strconv.ParseInt(digits, base, 64)
	return int(n), err == nil
}

// words goes through the words of a text, up to the first bytes that are none; the last one tells the end.
func words(s string) iter.Seq[word] {
	return func(yield func(word) bool) {
		line, last := 0, 0 // last is the line of the last byte
		for i := 0; i < len(s); {
			last = line
			switch {
			case s[i] == '\n':
				line++
				i++
			case s[i] == ' ' || s[i] == '\t' || s[i] == '\r':
				i++
			case strings.HasPrefix(s[i:], "//"):
				i = run(s, i, func(c byte) bool { return c != '\n' })
			default:
				text, sort := wordAt(s, i)
				if !yield(word{text, sort, line}) || sort == noWord {
					return
				}
				i += len(text)
			}
		}
		yield(word{sort: theEnd, line: last})
	}
}

// Words returns the words of a text.
func Words(text string) (l []string, line int, e api.Errno) {
	if len(text) > api.MaxText {
		return nil, 0, api.ErrLong
	}
	for w := range words(text) {
		switch w.sort {
		case noWord:
			return nil, w.line, api.ErrSyntax
		case theEnd:
			return l, 0, api.OK
		}
		l = append(l, w.text)
	}
	return l, 0, api.OK
}
