package relate

import (
	"strconv"
	"strings"

	"intermede/api"
)

// hows are the words for how acts go over.
var hows = [none + 1]string{deep: "deep", shallow: "shallow", none: "none"}

func quoted(s string) string {
	return `"` + strings.NewReplacer(`\`, `\\`, `"`, `\"`, "\n", `\n`).Replace(s) + `"`
}

// unquoted reads what stands between quotes; what is not written as quoted does is left to who compares.
func unquoted(s string) string {
	return strings.NewReplacer(`\\`, `\`, `\"`, `"`, `\n`, "\n").Replace(strings.TrimSuffix(strings.TrimPrefix(s, `"`), `"`))
}

// counted writes numbers behind a word.
func counted(word string, l ...int) string {
	for _, n := range l {
		word += " " + strconv.Itoa(n)
	}
	return word
}

func showSort(s api.Sort) string { return "sort " + s.Name }

func showRole(r api.Role) string {
	return counted("  role "+r.Name, r.Least, r.Most) + " " + hows[r.Copy] + " " + hows[r.Move] + " " + hows[r.Remove]
}

func showNext(object, tie int) string { return counted("next", object, tie) }

func showObject(o api.Thing) string { return counted("object", o.ID, o.Place) + " " + quoted(o.Text) }

func (w *World) showTie(t tie) string {
	return counted(counted("tie", t.id)+" "+w.sorts[t.sort].Name, t.objects...)
}

// Format writes a world.
func (w *World) Format() string {
	if w == nil {
		return ""
	}
	var l []string
	for _, s := range w.sorts {
		l = append(l, showSort(s))
		for _, r := range s.Roles {
			l = append(l, showRole(r))
		}
	}
	l = append(l, showNext(w.lastObject+1, w.lastTie+1))
	for _, o := range w.objects {
		l = append(l, showObject(o))
	}
	for _, t := range w.ties {
		l = append(l, w.showTie(t))
	}
	return strings.Join(l, "\n") + "\n"
}

// reader reads a world line by line; behind the line `next` the sorts are whole.
type reader struct {
	world *World
	next  bool
}

// whole reports whether the sorts up to now have roles enough.
func (r *reader) whole() bool {
	sorts := r.world.sorts
	return len(sorts) == 0 || len(sorts[len(sorts)-1].Roles) >= 2
}

// Each of these adds what a line says, and returns how that is written, or tells that it can't be.

func (r *reader) sort(words []string) (string, bool) {
	s := api.Sort{Name: words[1]}
	w := r.world
	ok := !r.next && r.whole() && isName(s.Name) && named(w.sorts, s.Name, sortName) < 0 && len(w.sorts) < maxSorts
	w.sorts = append(w.sorts, s)
	return showSort(s), ok
}

func (r *reader) role(words []string) (string, bool) {
	role := api.Role{Name: words[3], Copy: how(words[6]), Move: how(words[7]), Remove: how(words[8])}
	role.Least, _ = strconv.Atoi(words[4])
	role.Most, _ = strconv.Atoi(words[5])
	sorts := r.world.sorts
	if r.next || len(sorts) == 0 || !validRole(role) {
		return "", false
	}
	s := &sorts[len(sorts)-1]
	ok := named(s.Roles, role.Name, roleName) < 0 && len(s.Roles) < 3
	s.Roles = append(s.Roles, role)
	return showRole(role), ok
}

// how returns the number of a word, or 0.
func how(word string) int {
	for n := deep; n <= none; n++ {
		if hows[n] == word {
			return n
		}
	}
	return 0
}

func (r *reader) numbers(words []string) (string, bool) {
	object, _ := strconv.Atoi(words[1])
	tie, _ := strconv.Atoi(words[2])
	ok := !r.next && r.whole() && object > 0 && tie > 0
	r.next = true
	r.world.lastObject, r.world.lastTie = object-1, tie-1
	return showNext(object, tie), ok
}

func (r *reader) object(words []string) (string, bool) {
	o := api.Thing{Text: unquoted(words[3])}
	o.ID, _ = strconv.Atoi(words[1])
	o.Place, _ = strconv.Atoi(words[2])
	w, before := r.world, 0
	if len(w.objects) > 0 {
		before = w.objects[len(w.objects)-1].ID
	}
	ok := r.next && len(w.ties) == 0 && o.ID > before && o.ID <= w.lastObject && isPlace(o.Place) && len(o.Text) <= maxText && len(w.objects) < maxObjects
	w.objects = append(w.objects, o)
	return showObject(o), ok
}

func (r *reader) tie(words []string) (string, bool) {
	w := r.world
	t := tie{sort: named(w.sorts, words[2], sortName)}
	if !r.next || t.sort < 0 || len(words) != 3+len(w.sorts[t.sort].Roles) || len(w.ties) >= maxTies {
		return "", false
	}
	t.id, _ = strconv.Atoi(words[1])
	for _, word := range words[3:] {
		id, _ := strconv.Atoi(word)
		t.objects = append(t.objects, id)
	}
	before := 0
	if len(w.ties) > 0 {
		before = w.ties[len(w.ties)-1].id
	}
	ok := t.id > before && t.id <= w.lastTie && w.has(t.objects...) == api.OK
	for role, id := range t.objects {
		ok = ok && !w.crowded(seat{id, t.sort, role}, 1)
	}
	w.ties = append(w.ties, t)
	return w.showTie(t), ok
}

// line reads a line.
func (r *reader) line(s string) bool {
	words := strings.Split(s, " ")
	var shown string
	ok := false
	switch {
	case words[0] == "sort" && len(words) == 2:
		shown, ok = r.sort(words)
	case words[0] == "" && len(words) == 9:
		shown, ok = r.role(words)
	case words[0] == "next" && len(words) == 3:
		shown, ok = r.numbers(words)
	case words[0] == "object" && len(words) >= 4:
		shown, ok = r.object(strings.SplitN(s, " ", 4))
	case words[0] == "tie" && len(words) > 3:
		shown, ok = r.tie(words)
	}
	return ok && shown == s
}

// Read reads a world, or tells the first line that is none of one.
func Read(text string) (w *World, line int, e api.Errno) {
	if len(text) > api.MaxText {
		return nil, 0, api.ErrLong
	}
	r := &reader{world: &World{}}
	for line = 0; text != "" || !r.next; line++ {
		s, rest, ended := strings.Cut(text, "\n")
		if !ended || !r.line(s) {
			return nil, line, api.ErrSyntax
		}
		text = rest
	}
	return r.world, 0, api.OK
}
