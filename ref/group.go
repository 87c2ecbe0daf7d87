package ref

import (
	"slices"
	"strconv"
	"strings"

	"intermede/api"
	"intermede/kind"
)

// group is what the parts of a group's reference tell.
type group struct {
	name    string
	version int
	first   int
}

// number reads a decimal without leading zeros, up to a number.
func number(s string, most int) (int, bool) {
	n, err := strconv.Atoi(s)
	return n, err == nil && n >= 0 && n <= most && strconv.Itoa(n) == s
}

// member reads the text of a group's part.
func member(text string) (name string, version int, first, ok bool) {
	words := strings.Split(text, " ")
	if len(words) == 3 && words[2] == "first" {
		first, words = true, words[:2]
	}
	if len(words) != 2 || !kind.Name(words[0]) {
		return "", 0, false, false
	}
	version, ok = number(words[1], api.MaxTime)
	return words[0], version, first, ok
}

// groupOf tells the group of a valid reference, if all its profiles are of one.
func groupOf(r api.Ref) (group, bool) {
	g := group{first: -1}
	for i := range r.Profiles {
		n, there := part(&r.Profiles[i], groupTag)
		if !there {
			return group{}, false
		}
		name, version, first, ok := member(r.Profiles[i].Parts[n].Text)
		if !ok || i > 0 && (name != g.name || version != g.version) || first && g.first >= 0 {
			return group{}, false
		}
		g.name, g.version = name, version
		if first {
			g.first = i
		}
	}
	return g, len(r.Profiles) > 0
}

// Group returns a group's name, its version, and the profile that is first.
func Group(r api.Ref) (name string, version, first int, e api.Errno) {
	if !Valid(r) {
		return "", 0, 0, api.ErrInvalid
	}
	g, ok := groupOf(r)
	if !ok {
		return "", 0, 0, api.ErrKind
	}
	return g.name, g.version, g.first, api.OK
}

// Grouped makes a group's reference of the first profiles of references.
func Grouped(l []api.Ref, name string, version, first int) (api.Ref, api.Errno) {
	if len(l) > maxProfiles || slices.ContainsFunc(l, func(r api.Ref) bool { return !Valid(r) }) {
		return api.Ref{}, api.ErrInvalid
	}
	switch {
	case len(l) == 0 || slices.ContainsFunc(l, Nil):
		return api.Ref{}, api.ErrState
	case !kind.Name(name):
		return api.Ref{}, api.ErrName
	case version < 0 || version > api.MaxTime || first < -1 || first >= len(l):
		return api.Ref{}, api.ErrRange
	}
	out := api.Ref{ID: l[0].ID}
	for i, r := range l {
		p := cloneProfile(r.Profiles[0])
		text := name + " " + strconv.Itoa(version)
		if i == first {
			text += " first"
		}
		n, there := part(&p, groupTag)
		if there {
			p.Parts[n].Text = text
		} else {
			p.Parts = slices.Insert(p.Parts, n, api.Context{Tag: groupTag, Text: text})
		}
		if len(p.Parts) > maxParts {
			return api.Ref{}, api.ErrLimit
		}
		out.Profiles = append(out.Profiles, p)
	}
	// All profiles are valid by themselves: only equal ones are left to be wrong.
	if !Valid(out) {
		return api.Ref{}, api.ErrDuplicate
	}
	return out, api.OK
}
