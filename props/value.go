package props

import (
	"cmp"
	"slices"
	"strconv"
	"strings"

	"intermede/api"
)

// The kinds of values.
const (
	aNumber = 1 + iota
	aText
	aTruth
	aList
)

// The limits of values.
const (
	maxNumber = 1000000000000000
	maxText   = 1000
	maxList   = 100
)

func isKind(kind int) bool { return kind >= aNumber && kind <= aList }

// value is what a property says. It is never changed, so that bags may share it.
type value interface {
	kind() int
	fits() bool
	show() string
}

type (
	number int
	words  string
	truth  bool
	list   []int
)

func (number) kind() int { return aNumber }
func (words) kind() int  { return aText }
func (truth) kind() int  { return aTruth }
func (list) kind() int   { return aList }

func (n number) fits() bool { return n >= -maxNumber && n <= maxNumber }
func (s words) fits() bool  { return len(s) <= maxText }
func (truth) fits() bool    { return true }

func (l list) fits() bool {
	return len(l) <= maxList && !slices.ContainsFunc(l, func(n int) bool { return !number(n).fits() })
}

func (n number) show() string { return strconv.Itoa(int(n)) }
func (t truth) show() string  { return strconv.FormatBool(bool(t)) }

func (s words) show() string {
	return `"` + strings.NewReplacer(`\`, `\\`, `"`, `\"`, "\n", `\n`).Replace(string(s)) + `"`
}

func (l list) show() string {
	var b strings.Builder
	for i, n := range l {
		if i > 0 {
			b.WriteByte(',')
		}
		b.WriteString(strconv.Itoa(n))
	}
	return "[" + b.String() + "]"
}

// read reads what show writes; what is written in another way is not so.
func read(s string) (value, bool) {
	var v value
	inner := ""
	if len(s) > 1 {
		inner = s[1 : len(s)-1]
	}
	switch {
	case strings.HasPrefix(s, `"`):
		v = words(strings.NewReplacer(`\\`, `\`, `\"`, `"`, `\n`, "\n").Replace(inner))
	case strings.HasPrefix(s, "["):
		var l list
		for word := range strings.SplitSeq(inner, ",") {
			if n, err := strconv.Atoi(word); err == nil {
				l = append(l, n)
			}
		}
		v = l
	case s == "true" || s == "false":
		v = truth(s == "true")
	default:
		n, _ := strconv.Atoi(s)
		v = number(n)
	}
	return v, v.fits() && v.show() == s
}

// valueOf returns the value of a property whose kind there is.
func valueOf(p api.Prop) value {
	switch p.Kind {
	case aNumber:
		return number(p.N)
	case aText:
		return words(p.S)
	case aTruth:
		return truth(p.N == 1)
	}
	return list(slices.Clone(p.L))
}

// propOf returns the property with a name and a value.
func propOf(name string, v value) api.Prop {
	p := api.Prop{Name: name, Kind: v.kind()}
	switch v := v.(type) {
	case number:
		p.N = int(v)
	case words:
		p.S = string(v)
	case truth:
		if v {
			p.N = 1
		}
	case list:
		p.L = slices.Clone([]int(v))
	}
	return p
}

func isLetter(c byte) bool { return c >= 'a' && c <= 'z' || c >= 'A' && c <= 'Z' }

func isName(s string) bool {
	for i := range len(s) {
		if !isLetter(s[i]) && (i == 0 || s[i] != '_' && (s[i] < '0' || s[i] > '9')) {
			return false
		}
	}
	return s != "" && len(s) <= api.MaxName
}

// ValidProp reports whether a property is valid; fields that do not belong to its kind are zero.
func ValidProp(p api.Prop) bool {
	if !isName(p.Name) || !isKind(p.Kind) {
		return false
	}
	v := valueOf(p)
	same := propOf(p.Name, v)
	return v.fits() && same.N == p.N && same.S == p.S && slices.Equal(same.L, p.L)
}

// compared compares values: kinds, then values of one kind.
func compared(a, b value) int {
	if c := cmp.Compare(a.kind(), b.kind()); c != 0 {
		return c
	}
	switch a := a.(type) {
	case number:
		b, _ := b.(number)
		return cmp.Compare(a, b)
	case words:
		b, _ := b.(words)
		return cmp.Compare(a, b)
	case truth:
		return cmp.Compare(a.show(), b.show()) // false is before true
	case list:
		b, _ := b.(list)
		return slices.Compare(a, b)
	}
	return 0
}

// Compare orders properties by name, kind and value.
func Compare(a, b api.Prop) int {
	if !ValidProp(a) || !ValidProp(b) {
		return 0
	}
	return cmp.Or(cmp.Compare(a.Name, b.Name), compared(valueOf(a), valueOf(b)))
}
