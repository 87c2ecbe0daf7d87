package props

import (
	"strconv"
	"strings"

	"intermede/api"
)

// showKinds writes the kinds of a bag.
func showKinds(l []int) string {
	s := "kinds"
	for _, kind := range l {
		s += " " + strconv.Itoa(kind)
	}
	return s
}

func showRule(r api.Rule) string {
	return "rule " + r.Name + " " + strconv.Itoa(r.Kind) + " " + strconv.Itoa(r.Mode)
}

func showEntry(name string, x entry) string {
	return name + " " + strconv.Itoa(x.mode) + " " + x.value.show()
}

// Format writes a bag.
func (b *Bag) Format() string {
	if b == nil {
		return ""
	}
	var t strings.Builder
	t.WriteString(showKinds(b.kinds) + "\n")
	for _, r := range b.rules {
		t.WriteString(showRule(r) + "\n")
	}
	for name, x := range b.inOrder() {
		t.WriteString(showEntry(name, x) + "\n")
	}
	return t.String()
}

// reader reads a bag line by line.
type reader struct {
	bag  *Bag
	last string // the name of the last property
}

func (r *reader) kinds(line string) bool {
	var l []int
	for word := range strings.SplitSeq(line, " ") {
		if kind, err := strconv.Atoi(word); err == nil {
			l = append(l, kind)
		}
	}
	r.bag.kinds = l
	return validKinds(l) && showKinds(l) == line
}

func (r *reader) rule(line string) bool {
	words := strings.Split(line, " ")
	if len(words) != 4 || r.last != "" {
		return false
	}
	rule := api.Rule{Name: words[1]}
	rule.Kind, _ = strconv.Atoi(words[2])
	rule.Mode, _ = strconv.Atoi(words[3])
	rules := append(r.bag.rules, rule)
	if showRule(rule) != line || !validRule(rule) || !ascend(rules[max(0, len(rules)-2):], func(r api.Rule) string { return r.Name }) {
		return false
	}
	r.bag.rules = rules
	return true
}

func (r *reader) prop(line string) bool {
	name, rest, _ := strings.Cut(line, " ")
	word, shown, _ := strings.Cut(rest, " ")
	mode, _ := strconv.Atoi(word)
	v, ok := read(shown)
	if !ok || !isName(name) || name <= r.last || !isMode(mode) || showEntry(name, entry{v, mode}) != line {
		return false
	}
	r.last = name
	return r.bag.define(definition{entry{v, mode}, name}) == api.OK
}

// Read reads a bag, or tells the first line that is none of one.
func Read(text string) (b *Bag, line int, e api.Errno) {
	if len(text) > api.MaxText {
		return nil, 0, api.ErrLong
	}
	r := &reader{bag: &Bag{}}
	for line = 0; line == 0 || text != ""; line++ {
		s, rest, ended := strings.Cut(text, "\n")
		ok := ended
		switch {
		case !ok:
		case line == 0:
			ok = r.kinds(s)
		default:
			// A name begins with a letter, a mode does not: a line is a rule or a property, never both.
			ok = r.rule(s) || r.prop(s)
		}
		if !ok {
			return nil, line, api.ErrSyntax
		}
		text = rest
	}
	return r.bag, 0, api.OK
}
