package trader

import (
	"slices"

	"intermede/api"
)

// rank tells where an offer stands: those with lesser ranks come first.
type rank func(o *api.Offer) int

// behind is the rank of an offer that has no value that counts.
const behind = 2 * maxNumber

// preference reads a preference: how offers are ranked by it.
func preference(text string) (by rank, e api.Errno) {
	if len(text) > maxExpr {
		return nil, api.ErrLong
	}
	same := func(*api.Offer) int { return 0 }
	if text == "" {
		return same, api.OK
	}
	defer func() {
		if p := recover(); p != nil {
			by, e = nil, caught(p)
		}
	}()
	l := words(text)
	must(len(l) > 0)
	if l[0] == "first" {
		must(len(l) == 1)
		return same, api.OK
	}
	must(l[0] == "min" || l[0] == "max" || l[0] == "with")
	n := parse(l[1:])
	return func(o *api.Offer) int {
		v, ok := n.of(o.Props)
		switch {
		case l[0] == "with" && isTruth(v, ok, true):
			return 0
		case l[0] == "with" || !ok || v.Kind != aNumber:
			return behind
		case l[0] == "max":
			return -v.N
		}
		return v.N
	}, api.OK
}

// Sorted puts offers in the order of a preference.
func Sorted(pref string, l []api.Offer) ([]api.Offer, api.Errno) {
	if slices.ContainsFunc(l, func(o api.Offer) bool { return !validProps(o.Props) }) {
		return nil, api.ErrInvalid
	}
	by, e := preference(pref)
	if e != api.OK {
		return nil, e
	}
	var out []api.Offer
	for _, o := range l {
		out = append(out, cloneOffer(o))
	}
	slices.SortStableFunc(out, func(a, b api.Offer) int { return compare(a.ID, b.ID) })
	ranked(out, by, func(o *api.Offer) *api.Offer { return o })
	return out, api.OK
}

func compare(a, b int) int {
	switch {
	case a < b:
		return -1
	case a > b:
		return 1
	}
	return 0
}

// ranked sorts what has offers by their ranks; equal ones stay as they are.
func ranked[T any](l []T, by rank, offer func(*T) *api.Offer) {
	slices.SortStableFunc(l, func(a, b T) int { return compare(by(offer(&a)), by(offer(&b))) })
}

// question is what is asked of offers.
type question struct {
	kind       string
	constraint *node
	by         rank
}

// asks reads what is asked of offers: each error is asked of both texts, before the next one.
func asks(kind, constraint, pref string) (question, api.Errno) {
	n, e := read(constraint)
	by, e2 := preference(pref)
	for _, wrong := range [...]api.Errno{api.ErrLong, api.ErrSyntax, api.ErrLimit} {
		if e == wrong || e2 == wrong {
			return question{}, wrong
		}
	}
	return question{kind, n, by}, api.OK
}

// Query returns the offers of a type that fit.
func (t *Trader) Query(kind, constraint, preference string, most int) ([]api.Offer, api.Errno) {
	if t == nil || !isName(kind) {
		return nil, api.ErrInvalid
	}
	q, e := asks(kind, constraint, preference)
	if e != api.OK {
		return nil, e
	}
	if most < 0 {
		return nil, api.ErrRange
	}
	if e := t.asked(kind); e != api.OK {
		return nil, e
	}
	l := slices.Collect(t.matching(kind, q.constraint))
	ranked(l, q.by, func(o *api.Offer) *api.Offer { return o })
	return l[:min(most, len(l))], api.OK
}

// federation asks traders, each once.
type federation struct {
	question
	traders map[string]*Trader
	asked   []string
	found   []api.Found
}

// stop is a trader that is to be asked, over so many links.
type stop struct {
	name string
	hops int
}

// Federated asks a trader of a federation, and others over its links.
func Federated(l []*Trader, start, kind, constraint, preference string, hops, most int) ([]api.Found, []string, api.Errno) {
	f := &federation{traders: map[string]*Trader{}}
	for _, t := range l {
		if t == nil || f.traders[t.name] != nil {
			return nil, nil, api.ErrInvalid
		}
		f.traders[t.name] = t
	}
	if !isName(start) || !isName(kind) {
		return nil, nil, api.ErrInvalid
	}
	var e api.Errno
	f.question, e = asks(kind, constraint, preference)
	switch {
	case e != api.OK:
		return nil, nil, e
	case hops < 0 || most < 0:
		return nil, nil, api.ErrRange
	case f.traders[start] == nil:
		return nil, nil, api.ErrName
	}
	f.run(start, hops)
	ranked(f.found, f.by, func(x *api.Found) *api.Offer { return &x.Offer })
	return f.found[:min(most, len(f.found))], f.asked, api.OK
}

// run asks traders breadth first.
func (f *federation) run(start string, hops int) {
	seen := map[string]bool{start: true}
	for next := []stop{{start, 0}}; len(next) > 0; next = next[1:] {
		at := next[0]
		t := f.traders[at.name]
		f.asked = append(f.asked, at.name)
		before := len(f.found)
		for o := range t.matching(f.kind, f.constraint) {
			f.found = append(f.found, api.Found{Trader: at.name, Offer: o})
		}
		for _, w := range t.links {
			goes := w.Follow == always || w.Follow == ifNothing && len(f.found) == before
			if goes && at.hops < hops && f.traders[w.To] != nil && !seen[w.To] {
				seen[w.To] = true
				next = append(next, stop{w.To, at.hops + 1})
			}
		}
	}
}
