// Package creds has principals, and rights that are delegated.
package creds

import (
	"cmp"
	"slices"
	"strings"

	"intermede/api"
)

// The limits of rings, rights and chains.
const (
	maxKey    = 1 << 62
	maxKeys   = 100
	maxRights = 20
	maxChain  = 20
	maxDeep   = 20
	maxLists  = 100
)

// every is the right that holds all.
const every = "*"

// between reports whether something is within bounds.
func between[T cmp.Ordered](low, x, high T) bool { return low <= x && x <= high }

func isSmall(c byte) bool { return between('a', c, 'z') }

// isWord reports whether a text is a word of small letters and digits.
func isWord(s string) bool {
	for i := range len(s) {
		if !isSmall(s[i]) && !between('0', s[i], '9') {
			return false
		}
	}
	return s != ""
}

// Principal reports whether a text is a principal's name.
func Principal(s string) bool { return len(s) <= api.MaxName && isWord(s) && isSmall(s[0]) }

// Right reports whether a text is a right.
func Right(s string) bool {
	if s == every {
		return true
	}
	for word := range strings.SplitSeq(s, ".") {
		if !isWord(word) {
			return false
		}
	}
	return len(s) <= api.MaxName
}

func holds(a, b string) bool {
	return a == every || a == b || strings.HasPrefix(b, a) && b[len(a)] == '.'
}

// Holds reports whether the right a holds b.
func Holds(a, b string) (bool, api.Errno) {
	if !Right(a) || !Right(b) {
		return false, api.ErrInvalid
	}
	return holds(a, b), api.OK
}

// isSet reports whether rights are a set as it is written.
func isSet(l []string) bool {
	if !between(1, len(l), maxRights) {
		return false
	}
	for i, a := range l {
		if !Right(a) || i > 0 && l[i-1] >= a {
			return false
		}
	}
	// What holds another one is a beginning of it, and stands before it.
	for i, a := range l {
		if slices.ContainsFunc(l[:i], func(b string) bool { return holds(b, a) }) {
			return false
		}
	}
	return true
}

// written writes a set: what is held by another one goes.
func written(set map[string]bool) []string {
	var l []string
	for a := range set {
		held := a != every && set[every]
		for i := range len(a) {
			held = held || a[i] == '.' && set[a[:i]]
		}
		if !held {
			l = append(l, a)
		}
	}
	slices.Sort(l)
	return l
}

// Rights makes a set of rights.
func Rights(l []string) ([]string, api.Errno) {
	set := map[string]bool{}
	for _, a := range l {
		if !Right(a) {
			return nil, api.ErrInvalid
		}
		set[a] = true
	}
	if !between(1, len(set), maxRights) {
		return nil, api.ErrInvalid
	}
	return written(set), api.OK
}

func allows(rights []string, right string) bool {
	return slices.ContainsFunc(rights, func(a string) bool { return holds(a, right) })
}

func within(a, b []string) bool {
	return !slices.ContainsFunc(a, func(right string) bool { return !allows(b, right) })
}

// Within reports whether all rights of a are held by those of b.
func Within(a, b []string) (bool, api.Errno) {
	if !isSet(a) || !isSet(b) {
		return false, api.ErrInvalid
	}
	return within(a, b), api.OK
}

// Meet returns the rights that two sets hold.
func Meet(a, b []string) ([]string, api.Errno) {
	if !isSet(a) || !isSet(b) {
		return nil, api.ErrInvalid
	}
	set := map[string]bool{}
	for _, x := range a {
		for _, y := range b {
			switch {
			case holds(x, y):
				set[y] = true
			case holds(y, x):
				set[x] = true
			}
		}
	}
	if len(set) == 0 {
		return nil, api.ErrNone
	}
	return written(set), api.OK
}

// Allows reports whether a right is held by one of a set.
func Allows(rights []string, right string) (bool, api.Errno) {
	if !isSet(rights) || !Right(right) {
		return false, api.ErrInvalid
	}
	return allows(rights, right), api.OK
}
