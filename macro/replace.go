package macro

import (
	"strings"

	"intermede/api"
)

// maxReplaced is the most macros that are replaced in a line.
const maxReplaced = 10000

// wrong is what all panics with that goes wrong.
type wrong struct{ e api.Errno }

// caught tells what was wrong, of what was recovered.
func caught(p any) api.Errno {
	if w, ok := p.(wrong); ok {
		return w.e
	}
	return api.ErrInvalid
}

// origin is what words came out of: these macros do not replace them.
type origin struct {
	hides func(name string) bool
}

// and is the origin of words that came out of one more macro.
func (o *origin) and(name string) *origin {
	if o.hides(name) {
		return o
	}
	return &origin{func(n string) bool { return n == name || o.hides(n) }}
}

// item is a word while macros are replaced.
type item struct {
	word string
	from *origin
}

// stream gives items out of several lists, one behind the other. Lists are never copied, as arguments within arguments may be many.
type stream struct {
	lists [][]item // the next one last
	size  int      // of all words with a blank each
}

func size(l []item) int {
	n := 0
	for _, it := range l {
		n += len(it.word) + 1
	}
	return n
}

// push puts a list before all others.
func (s *stream) push(l []item) {
	s.lists = append(s.lists, l)
	s.size += size(l)
}

// top is the list with the next item; ok is false at the end.
func (s *stream) top() (l []item, ok bool) {
	for n := len(s.lists); n > 0; n-- {
		if len(s.lists[n-1]) > 0 {
			return s.lists[n-1], true
		}
		s.lists = s.lists[:n-1]
	}
	return nil, false
}

func (s *stream) next() (item, bool) {
	l, ok := s.top()
	if !ok {
		return item{}, false
	}
	s.lists[len(s.lists)-1] = l[1:]
	s.size -= len(l[0].word) + 1
	return l[0], true
}

func (s *stream) isNext(word string) bool {
	l, ok := s.top()
	return ok && l[0].word == word
}

// argument is the lists of which an argument consists, the last one first.
type argument [][]item

// arguments takes the arguments of a call from behind its parenthesis on.
func (s *stream) arguments() []argument {
	args := []argument{nil}
	deep := 0
	for {
		l, ok := s.top()
		if !ok {
			panic(wrong{api.ErrSyntax})
		}
		n, ends := 0, false
		for n < len(l) && !ends {
			switch l[n].word {
			case "(":
				deep++
			case ")":
				ends = deep == 0
				deep--
			case ",":
				ends = deep == 0
			}
			n++
		}
		last := len(args) - 1
		part := l[:n]
		if ends {
			part = l[:n-1]
		}
		args[last] = append(argument{part}, args[last]...)
		s.lists[len(s.lists)-1] = l[n:]
		s.size -= size(l[:n])
		if ends && l[n-1].word == ")" {
			return args
		}
		if ends {
			args = append(args, nil)
		}
	}
}

func (a argument) empty() bool {
	for _, l := range a {
		if len(l) > 0 {
			return false
		}
	}
	return true
}

// replacer replaces macros.
type replacer struct {
	macros map[string]api.Macro
	count  int
}

// line replaces the macros in the words of a line.
func (r *replacer) line(words []string) []string {
	r.count = 0
	nothing := &origin{func(string) bool { return false }}
	var l []item
	for _, w := range words {
		l = append(l, item{w, nothing})
	}
	var out []string
	for _, it := range r.all([][]item{l}) {
		out = append(out, it.word)
	}
	return out
}

// all replaces the macros in lists of items, the last one first.
func (r *replacer) all(lists [][]item) []item {
	s := &stream{}
	for _, l := range lists {
		s.push(l)
	}
	var out []item
	done := 0
	for {
		if done+s.size-1 > api.MaxText {
			panic(wrong{api.ErrLimit})
		}
		it, ok := s.next()
		if !ok {
			return out
		}
		m, is := r.macros[it.word]
		if is && m.Called && !s.isNext("(") || is && it.from.hides(it.word) {
			is = false
		}
		if !is {
			out = append(out, it)
			done += len(it.word) + 1
			continue
		}
		var args []argument
		if m.Called {
			s.next()
			args = s.arguments()
		}
		if r.count++; r.count > maxReplaced {
			panic(wrong{api.ErrLimit})
		}
		s.push(r.body(m, it.from, args))
	}
}

// body is what comes in the place of a macro whose name came out of others.
func (r *replacer) body(m api.Macro, from *origin, args []argument) []item {
	if m.Called && len(m.Params) == 0 && len(args) == 1 && args[0].empty() {
		args = nil
	}
	if len(args) != len(m.Params) {
		panic(wrong{api.ErrSyntax})
	}
	own := from.and(m.Name)
	values := map[string][]item{}
	for i, arg := range args {
		values[m.Params[i]] = cameOut(r.all(arg), m.Name)
	}
	var out []item
	length := 0
	for _, w := range scan(m.Body) {
		value, is := values[w.text]
		if !is {
			value = []item{{w.text, own}}
		}
		out = append(out, value...)
		if length += size(value); length-1 > api.MaxText {
			panic(wrong{api.ErrLimit})
		}
	}
	return out
}

// cameOut tells the words of an argument that they came out of a macro, too: they keep what they came out of before.
func cameOut(l []item, name string) []item {
	made := map[*origin]*origin{}
	for i, it := range l {
		o := made[it.from]
		if o == nil {
			o = it.from.and(name)
			made[it.from] = o
		}
		l[i].from = o
	}
	return l
}

// Replace replaces macros in a line.
func Replace(line string, l []api.Macro) (s string, e api.Errno) {
	if isLong(line) {
		return "", api.ErrLong
	}
	macros, ok := known(l)
	if !ok {
		return "", api.ErrInvalid
	}
	defer func() {
		if p := recover(); p != nil {
			s, e = "", caught(p)
		}
	}()
	r := &replacer{macros: macros}
	return strings.Join(r.line(texts(scan(line))), " "), api.OK
}
