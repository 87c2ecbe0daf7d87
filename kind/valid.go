package kind

import (
	"math"
	"strings"

	"intermede/api"
)

// maxChain is the most parts that a value type's chain has, maxLabels the most labels of a union.
const (
	maxChain  = 6
	maxLabels = 256
)

func isLetter(c byte) bool { return c >= 'a' && c <= 'z' || c >= 'A' && c <= 'Z' }

func isWord(c byte) bool { return isLetter(c) || c >= '0' && c <= '9' || c == '_' }

// inID reports whether a byte may stand in an id: in Format ids end at the other ones.
func inID(c byte) bool { return c > ' ' && c <= '~' && strings.IndexByte("],};>", c) < 0 }

// every reports whether there is something in a text, not too much, and nothing else than told.
func every(s string, in func(byte) bool) bool {
	if len(s) < 1 || len(s) > api.MaxName {
		return false
	}
	for i := range len(s) {
		if !in(s[i]) {
			return false
		}
	}
	return true
}

// Name reports whether a text is a name.
func Name(s string) bool { return every(s, isWord) && isLetter(s[0]) }

// ID reports whether a text is an id.
func ID(s string) bool { return every(s, inID) }

// The fields that kinds may have.
const (
	hasID = 1 << iota
	hasName
	hasN
	hasM
	hasNames
	hasKids
	hasLabels
	hasChain
)

// shape tells what a kind has: its fields, and whether they are right among themselves.
type shape struct {
	fields int
	right  func(*api.Type) bool
}

func shapes() [api.TRef + 1]shape {
	free := shape{right: func(*api.Type) bool { return true }}
	return [api.TRef + 1]shape{
		api.TVoid: free, api.TBool: free, api.TOctet: free, api.TChar: free, api.TShort: free, api.TLong: free, api.THuge: free, api.TAny: free, api.TType: free,
		api.TText:   {hasN, func(t *api.Type) bool { return t.N >= 0 && t.N <= api.MaxItems }},
		api.TFixed:  {hasN | hasM, func(t *api.Type) bool { return t.N >= 1 && t.N <= api.MaxDigits && t.M >= 0 && t.M <= t.N }},
		api.TEnum:   {hasID | hasName | hasNames, func(t *api.Type) bool { return different(t.Names, len(t.Names), 1) }},
		api.TStruct: {hasID | hasName | hasNames | hasKids, func(t *api.Type) bool { return different(t.Names, len(t.Kids), 1) }},
		api.TExcept: {hasID | hasName | hasNames | hasKids, func(t *api.Type) bool { return different(t.Names, len(t.Kids), 0) }},
		api.TUnion:  {hasID | hasName | hasN | hasNames | hasKids | hasLabels, rightUnion},
		api.TSeq:    {hasN | hasKids, func(t *api.Type) bool { return len(t.Kids) == 1 && t.N >= 0 && t.N <= api.MaxItems }},
		api.TArray:  {hasN | hasKids, func(t *api.Type) bool { return len(t.Kids) == 1 && t.N >= 1 && t.N <= api.MaxItems }},
		api.TAlias:  {hasID | hasName | hasKids, func(t *api.Type) bool { return len(t.Kids) == 1 }},
		api.TObject: {hasID | hasName, free.right},
		api.TValue:  {hasID | hasName | hasNames | hasKids | hasChain, rightValue},
		api.TRef:    {hasID, free.right},
	}
}

// different reports whether there are so many names, not too few and not too many, and no two are equal.
func different(names []string, n, least int) bool {
	if len(names) != n || n < least || n > api.MaxKids {
		return false
	}
	seen := map[string]bool{}
	for _, name := range names {
		if !Name(name) || seen[name] {
			return false
		}
		seen[name] = true
	}
	return true
}

func rightUnion(t *api.Type) bool {
	n := len(t.Kids) - 1
	if !different(t.Names, n, 1) || len(t.Labels) != n || t.N < -1 || t.N >= n {
		return false
	}
	tag := &t.Kids[0]
	seen := map[int]bool{}
	for i, labels := range t.Labels {
		if len(labels) == 0 && i != t.N {
			return false
		}
		for _, label := range labels {
			if seen[label] || len(seen) == maxLabels || !fits(tag, label) {
				return false
			}
			seen[label] = true
		}
	}
	all := tag.Kind == api.TBool && len(seen) == 2 || tag.Kind == api.TEnum && len(seen) == len(tag.Names)
	return isTag(tag.Kind) && (t.N < 0 || !all)
}

// isTag reports whether a union's tag may be of a kind.
func isTag(kind int) bool {
	return kind >= api.TBool && kind <= api.TLong || kind == api.TEnum
}

func rightValue(t *api.Type) bool {
	if !different(t.Names, len(t.Kids), 0) || len(t.Chain) < 1 || len(t.Chain) > maxChain {
		return false
	}
	seen := map[string]bool{}
	n := 0
	for i, part := range t.Chain {
		if !ID(part.ID) || seen[part.ID] || part.N < n || i == 0 && part.Trunc {
			return false
		}
		seen[part.ID] = true
		n = part.N
	}
	return n == len(t.Kids) && t.ID == t.Chain[len(t.Chain)-1].ID
}

// fields tells which fields of a type are not zero.
func fields(t *api.Type) int {
	set := 0
	for i, there := range [...]bool{t.ID != "", t.Name != "", t.N != 0, t.M != 0, len(t.Names) > 0, len(t.Kids) > 0, len(t.Labels) > 0, len(t.Chain) > 0} {
		if there {
			set |= 1 << i
		}
	}
	return set
}

// ownRight asks a type alone, whatever is within and around it.
func ownRight(t *api.Type) bool {
	if t.Kind < 0 || t.Kind > api.TRef {
		return false
	}
	has := shapes()[t.Kind]
	switch {
	case fields(t)&^has.fields != 0:
		return false
	case has.fields&hasID != 0 && !ID(t.ID), has.fields&hasName != 0 && !Name(t.Name):
		return false
	}
	return has.right(t)
}

// place is a type around a part: how many sequences are around it.
type place struct{ kind, seqs int }

// checker keeps what is around a part, by ids, and how many parts there were.
type checker struct {
	around map[string]place
	parts  int
}

func (c *checker) right(t *api.Type, level, seqs int) bool {
	c.parts++
	if level > api.MaxDeep || c.parts > api.MaxSize || !ownRight(t) {
		return false
	}
	if level > 1 && (t.Kind == api.TVoid || t.Kind == api.TExcept) {
		return false
	}
	p, found := c.around[t.ID]
	if t.Kind == api.TRef {
		return found && (p.kind == api.TValue || isAround(p.kind) && seqs > p.seqs)
	}
	if found && t.ID != "" {
		return false
	}
	if t.ID != "" {
		c.around[t.ID] = place{t.Kind, seqs}
		defer delete(c.around, t.ID)
	}
	if t.Kind == api.TSeq {
		seqs++
	}
	for i := range t.Kids {
		if !c.right(&t.Kids[i], level+1, seqs) {
			return false
		}
	}
	return true
}

// Valid reports whether a type is valid.
func Valid(t api.Type) bool {
	c := checker{around: map[string]place{}}
	return c.right(&t, 1, 0)
}

// fits reports whether a number is a value of a type of numbers.
func fits(t *api.Type, n int) bool {
	switch t.Kind {
	case api.TBool:
		return n == 0 || n == 1
	case api.TOctet, api.TChar:
		return n >= 0 && n <= math.MaxUint8
	case api.TShort:
		return n >= math.MinInt16 && n <= math.MaxInt16
	case api.TLong:
		return n >= math.MinInt32 && n <= math.MaxInt32
	case api.THuge:
		return true
	case api.TEnum:
		return n >= 0 && n < len(t.Names)
	}
	return false
}

// Fits reports whether a number is a value of a type.
func Fits(t api.Type, n int) bool {
	return Valid(t) && fits(bare(&t), n)
}
