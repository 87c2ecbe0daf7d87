package script

import (
	"slices"
	"strings"

	"intermede/api"
	"intermede/copies"
	"intermede/idl"
	"intermede/kind"
	"intermede/repo"
)

// scope tells what paths name, from the file on.
type scope struct {
	defs    []api.Def
	paths   map[string]*api.Def
	ids     map[string]*api.Def
	modules map[string]bool
	numbers map[string]int      // of enumerators
	ops     map[string][]api.Op // of interfaces that were asked for, by ids
}

func newScope(defs []api.Def) *scope {
	s := &scope{defs: defs, paths: map[string]*api.Def{}, ids: map[string]*api.Def{}, modules: map[string]bool{}, numbers: map[string]int{}, ops: map[string][]api.Op{}}
	for i := range defs {
		d := &defs[i]
		s.paths[d.Path], s.ids[d.ID] = d, d
		around := ""
		for j := range len(d.Path) {
			if strings.HasPrefix(d.Path[j:], "::") {
				around = d.Path[:j+2]
				s.modules[d.Path[:j]] = true
			}
		}
		if d.Kind == api.DEnum {
			for n, name := range d.Type.Names {
				s.numbers[around+name] = n
			}
		}
	}
	return s
}

// found is what a path names: a definition, an enumerator, or something else that is there.
type found struct {
	def        *api.Def
	number     int
	enumerator bool
}

// resolve tells what a path names; ok is false if there is no such thing.
func (s *scope) resolve(path string) (found, bool) {
	path = strings.TrimPrefix(path, "::")
	if f, ok := s.direct(path); ok {
		return f, true
	}
	i := strings.LastIndex(path, "::")
	if i < 0 {
		return found{}, false
	}
	// The last name may be inherited, or be that of a member.
	around, ok := s.resolve(path[:i])
	if !ok || around.def == nil {
		return found{}, false
	}
	return s.within(around.def, path[i+2:])
}

func (s *scope) direct(path string) (found, bool) {
	if d := s.paths[path]; d != nil {
		return found{def: d}, true
	}
	if n, ok := s.numbers[path]; ok {
		return found{number: n, enumerator: true}, true
	}
	return found{}, s.modules[path]
}

// within looks for a name in a definition.
func (s *scope) within(d *api.Def, name string) (found, bool) {
	switch d.Kind {
	case api.DStruct, api.DUnion, api.DExcept, api.DValue:
		return found{}, slices.Contains(d.Type.Names, name)
	case api.DInterface:
		if f, ok := s.direct(d.Path + "::" + name); ok {
			return f, true
		}
		bases, _ := repo.Bases(s.defs, d.ID)
		for _, id := range bases {
			if f, ok := s.direct(s.ids[id].Path + "::" + name); ok {
				return f, true
			}
		}
		return found{}, slices.ContainsFunc(s.operations(d.ID), func(op api.Op) bool {
			return op.Name == name || op.Name == "_get_"+name
		})
	}
	return found{}, false
}

// operations returns those of an interface; none for what is no interface that is defined.
func (s *scope) operations(id string) []api.Op {
	ops, asked := s.ops[id]
	if !asked {
		ops, _ = repo.Ops(s.defs, id)
		s.ops[id] = ops
	}
	return ops
}

// typ returns the type that is written: ErrName for a path that there is not, then ErrKind.
func (s *scope) typ(text string) (api.Type, api.Errno) {
	paths, _ := idl.Paths(text)
	for _, path := range paths {
		if _, ok := s.resolve(path); !ok {
			return api.Type{}, api.ErrName
		}
	}
	words, _, _ := idl.Words(text)
	r := &typeReader{scope: s, words: words}
	t := r.read()
	if r.wrong || !kind.Valid(t) {
		return api.Type{}, api.ErrKind
	}
	return t, api.OK
}

// typeReader reads the words of a type.
type typeReader struct {
	*scope
	words []string
	at    int
	wrong bool
}

// basic are the kinds of types of one word.
func basic() map[string]int {
	return map[string]int{
		"boolean": api.TBool, "octet": api.TOctet, "char": api.TChar, "short": api.TShort, "long": api.TLong, "huge": api.THuge, "string": api.TText, "fixed": api.TFixed, "sequence": api.TSeq, "array": api.TArray, "any": api.TAny, "type": api.TType, "Object": api.TObject,
	}
}

// is passes a word, if it is the next one; the word >> stands for two.
func (r *typeReader) is(word string) bool {
	if r.at == len(r.words) {
		return false
	}
	if word == ">" && r.words[r.at] == ">>" {
		r.words[r.at] = ">"
		return true
	}
	if r.words[r.at] != word {
		return false
	}
	r.at++
	return true
}

func (r *typeReader) read() api.Type {
	k, ok := basic()[r.words[r.at]]
	if !ok {
		return r.named()
	}
	r.at++
	t := api.Type{Kind: k}
	switch {
	case k == api.TObject:
		t.ID, t.Name = "Object:1.0", "Object"
	case r.is("<"):
		if k == api.TSeq || k == api.TArray {
			t.Kids = []api.Type{r.read()}
			if !r.is(",") {
				break
			}
		}
		t.N = r.number()
		if r.is(",") {
			t.M = r.number()
		} else {
			r.wrong = r.wrong || t.N < 1 // a bound that is written is from 1 on
		}
	}
	r.is(">")
	return t
}

// number reads an expression up to the next comma or bracket.
func (r *typeReader) number() int {
	from, deep := r.at, 0
	for ; deep > 0 || r.words[r.at] != "," && r.words[r.at] != ">" && r.words[r.at] != ">>"; r.at++ {
		switch r.words[r.at] {
		case "(":
			deep++
		case ")":
			deep--
		}
	}
	expr := strings.Join(r.words[from:r.at], " ")
	var values []int
	paths, _ := idl.Paths(expr)
	for _, path := range paths {
		f, _ := r.resolve(path)
		values = append(values, f.number)
		if f.enumerator {
			continue
		}
		if f.def == nil || f.def.Kind != api.DConst || f.def.Value.S != "" || f.def.Value.Kind == api.TText {
			r.wrong = true
			continue
		}
		values[len(values)-1] = f.def.Value.N
	}
	n, e := idl.Value(expr, paths, values)
	r.wrong = r.wrong || e != api.OK
	return n
}

// named reads a path.
func (r *typeReader) named() api.Type {
	path := ""
	for r.at < len(r.words) && !slices.Contains([]string{",", ">", ">>"}, r.words[r.at]) {
		path += r.words[r.at]
		r.at++
	}
	f, _ := r.resolve(path)
	if f.def == nil || f.def.Kind == api.DConst || f.def.Kind == api.DExcept {
		r.wrong = true
		return api.Type{}
	}
	return copies.Type(f.def.Type)
}
