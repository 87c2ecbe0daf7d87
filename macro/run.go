package macro

import (
	"maps"
	"slices"
	"strings"

	"intermede/api"
)

// The most texts of a source, and groups within each other.
const (
	maxTexts  = 20
	maxGroups = 40
)

// group is a group of conditions that is open.
type group struct {
	begin   api.Origin
	counts  bool // the group itself stands in lines that are read
	reading bool
	taken   bool // lines of it were read already
	last    bool // its else was there
}

// runner reads a source.
type runner struct {
	replacer
	texts  map[string]string
	seen   map[string]bool
	names  []string
	rows   []api.Row
	groups []group
	outer  int // how many groups were open when the text began that is read
	at     api.Origin
}

// newRunner tells false for a source or macros that are not valid.
func newRunner(main string, source []api.Text, defined []api.Macro) (*runner, bool) {
	macros, ok := known(defined)
	r := &runner{replacer: replacer{macros: macros}, texts: map[string]string{}, seen: map[string]bool{}}
	for _, t := range source {
		if _, there := r.texts[t.Name]; there || !isTextName(t.Name) || len(t.Text) > api.MaxText {
			return nil, false
		}
		r.texts[t.Name] = t.Text
	}
	_, there := r.texts[main]
	return r, ok && there && len(source) <= maxTexts
}

func isTextName(s string) bool {
	return len(s) >= 1 && len(s) <= api.MaxName && !strings.ContainsAny(s, "\"\n")
}

// ran reads a source from its main text on.
func ran(main string, source []api.Text, defined []api.Macro) (r *runner, at api.Origin, e api.Errno) {
	r, ok := newRunner(main, source, defined)
	if !ok {
		return nil, api.Origin{}, api.ErrInvalid
	}
	defer func() {
		if p := recover(); p != nil {
			at, e = r.at, caught(p)
		}
	}()
	r.text(main)
	return r, api.Origin{}, api.OK
}

// Run reads a source: the lines that come out.
func Run(main string, texts []api.Text, defined []api.Macro) ([]api.Row, api.Origin, api.Errno) {
	r, at, e := ran(main, texts, defined)
	if e != api.OK {
		return nil, at, e
	}
	return r.rows, api.Origin{}, api.OK
}

// Included returns the names of the texts that were read.
func Included(main string, texts []api.Text, defined []api.Macro) ([]string, api.Errno) {
	r, _, e := ran(main, texts, defined)
	if e != api.OK {
		return nil, e
	}
	return r.names, api.OK
}

// Macros returns the macros at the end.
func Macros(main string, texts []api.Text, defined []api.Macro) ([]api.Macro, api.Errno) {
	r, _, e := ran(main, texts, defined)
	if e != api.OK {
		return nil, e
	}
	var l []api.Macro
	for _, name := range slices.Sorted(maps.Keys(r.macros)) {
		l = append(l, r.macros[name])
	}
	return l, api.OK
}

// must asks for what a directive must have.
func must(ok bool) {
	if !ok {
		panic(wrong{api.ErrSyntax})
	}
}

// directives are what is done at a directive by its word.
func directives() map[string]func(*runner, []word) {
	return map[string]func(*runner, []word){
		"if": (*runner).ifTrue, "ifdef": (*runner).ifDefined, "ifndef": (*runner).ifNot, "elif": (*runner).elseIf, "else": (*runner).otherwise, "endif": (*runner).end,
		"define": (*runner).define, "undef": (*runner).undefine, "include": (*runner).include, "error": (*runner).fail, "pragma": (*runner).pragma,
	}
}

// text reads a text that was not read before.
func (r *runner) text(name string) {
	r.seen[name] = true
	r.names = append(r.names, name)
	outer := r.outer
	r.outer = len(r.groups)
	for l := range lines(r.texts[name]) {
		r.at = api.Origin{Name: name, Line: l.number}
		must(!l.open)
		r.read(scan(l.text))
	}
	if len(r.groups) > r.outer {
		r.at = r.groups[r.outer].begin
		must(false)
	}
	r.outer = outer
}

// reads reports whether lines are read, not passed over.
func (r *runner) reads() bool {
	return len(r.groups) == 0 || r.groups[len(r.groups)-1].reading
}

func (r *runner) read(l []word) {
	switch {
	case len(l) == 0:
	case l[0].text != "#":
		if r.reads() {
			r.row(r.line(texts(l)))
		}
	case len(l) > 1:
		r.directive(l[1].text, l[2:])
	}
}

func (r *runner) directive(name string, rest []word) {
	do := directives()[name]
	if r.reads() {
		must(do != nil)
		do(r, rest)
		return
	}
	switch name {
	case "if", "ifdef", "ifndef":
		r.open(false)
	case "elif", "else", "endif":
		do(r, rest)
	}
}

// row lets a line come out.
func (r *runner) row(words []string) {
	if len(words) == 0 {
		return
	}
	s := strings.Join(words, " ")
	if len(r.rows) == maxLines || len(s) > api.MaxText {
		panic(wrong{api.ErrLimit})
	}
	r.rows = append(r.rows, api.Row{Text: s, Origin: r.at})
}

// open begins a group.
func (r *runner) open(holds bool) {
	if len(r.groups) == maxGroups {
		panic(wrong{api.ErrLimit})
	}
	r.groups = append(r.groups, group{begin: r.at, counts: r.reads(), reading: holds, taken: holds})
}

func (r *runner) ifTrue(rest []word) {
	r.open(r.value(texts(rest)) != 0)
}

// isThere asks whether the only word is the name of a macro.
func (r *runner) isThere(rest []word) bool {
	must(len(rest) == 1 && isName(rest[0].text))
	_, there := r.macros[rest[0].text]
	return there
}

func (r *runner) ifDefined(rest []word) { r.open(r.isThere(rest)) }

func (r *runner) ifNot(rest []word) { r.open(!r.isThere(rest)) }

// group is the innermost group of the text that is read.
func (r *runner) group() *group {
	must(len(r.groups) > r.outer)
	return &r.groups[len(r.groups)-1]
}

func (r *runner) elseIf(rest []word) {
	g := r.group()
	must(!g.last)
	g.reading = g.counts && !g.taken && r.value(texts(rest)) != 0
	g.taken = g.taken || g.reading
}

func (r *runner) otherwise(rest []word) {
	g := r.group()
	must(!g.last && !(g.counts && len(rest) > 0))
	g.last = true
	g.reading = g.counts && !g.taken
	g.taken = true
}

func (r *runner) end(rest []word) {
	g := r.group()
	must(!(g.counts && len(rest) > 0))
	r.groups = r.groups[:len(r.groups)-1]
}

func (r *runner) define(rest []word) {
	m, ok := define(rest)
	must(ok)
	if old, there := r.macros[m.Name]; there && !Same(old, m) {
		panic(wrong{api.ErrDuplicate})
	}
	r.macros[m.Name] = m
}

func (r *runner) undefine(rest []word) {
	must(len(rest) == 1 && isMacroName(rest[0].text))
	delete(r.macros, rest[0].text)
}

func (r *runner) include(rest []word) {
	must(len(rest) == 1)
	s := rest[0].text
	must(len(s) > 1 && s[0] == '"' && ends(s))
	name := s[1 : len(s)-1]
	if _, there := r.texts[name]; !there {
		panic(wrong{api.ErrName})
	}
	if !r.seen[name] {
		r.text(name)
	}
}

// ends reports whether a text ends by its quote, not by its line.
func ends(s string) bool {
	last := 0
	for i := 1; i < len(s); i++ {
		if last = i; s[i] == '\\' {
			i++
		}
	}
	return last == len(s)-1 && s[last] == '"'
}

func (r *runner) fail([]word) { panic(wrong{api.ErrData}) }

func (r *runner) pragma(rest []word) {
	must(len(rest) > 0)
	r.row(append([]string{"#", "pragma"}, texts(rest)...))
}
