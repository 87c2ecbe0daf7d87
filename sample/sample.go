// Package sample makes types, value types that are known together, and graphs, for the tests of several layers: the same ones from the same seed.
package sample

import (
	"strconv"

	"intermede/api"
	"intermede/kind"
)

// Source makes samples.
type Source struct {
	state uint64
	ids   int
}

// New returns a source with a seed.
func New(seed int) *Source {
	return &Source{state: uint64(seed)*2 + 1}
}

// Int returns a number from 0 to below n.
func (s *Source) Int(n int) int {
	s.state = s.state*6364136223846793005 + 1442695040888963407
	return int((s.state >> 33) % uint64(n))
}

// Text returns a text of at most n bytes of an alphabet.
func (s *Source) Text(alphabet string, n int) string {
	var b []byte
	for range s.Int(n + 1) {
		b = append(b, alphabet[s.Int(len(alphabet))])
	}
	return string(b)
}

// id returns an id that was not returned before, and a name.
func (s *Source) id() (string, string) {
	s.ids++
	n := strconv.Itoa(s.ids)
	return "M/t" + n + ":1.0", "t" + n
}

// around is a type around a part: how many sequences are around it.
type around struct {
	id   string
	free bool // references to it need no sequence
	seqs int
}

// Type returns a valid type that is no void and no exception, with value types of those that are known.
func (s *Source) Type(known []api.Type) api.Type {
	return s.valid(3, known)
}

func (s *Source) valid(deep int, known []api.Type) api.Type {
	for {
		if t := s.part(deep, 0, nil, known); kind.Valid(t) {
			return t
		}
	}
}

// Except returns an exception.
func (s *Source) Except(known []api.Type) api.Type {
	for {
		t := api.Type{Kind: api.TExcept}
		t.ID, t.Name = s.id()
		s.members(&t, s.Int(3), 2, 0, nil, known)
		if kind.Valid(t) {
			return t
		}
	}
}

func (s *Source) members(t *api.Type, n, deep, seqs int, l []around, known []api.Type) {
	for i := range n {
		t.Names = append(t.Names, "m"+strconv.Itoa(len(t.Names)+i))
		t.Kids = append(t.Kids, s.part(deep-1, seqs, l, known))
	}
}

func (s *Source) plain() api.Type {
	switch k := s.Int(11); k {
	case 0:
		return api.Type{Kind: api.TText, N: s.Int(3) * 4}
	case 1:
		n := 1 + s.Int(31)
		return api.Type{Kind: api.TFixed, N: n, M: s.Int(n + 1)}
	case 2:
		return s.enum()
	case 3:
		return api.Type{Kind: api.TObject, ID: "M/I:1.0", Name: "I"}
	case 4:
		return api.Type{Kind: api.TAny + s.Int(2)}
	default:
		return api.Type{Kind: api.TBool + k - 5}
	}
}

func (s *Source) enum() api.Type {
	t := api.Type{Kind: api.TEnum, Names: []string{"A", "B", "C"}[:1+s.Int(3)]}
	t.Names = append([]string(nil), t.Names...)
	t.ID, t.Name = s.id()
	return t
}

func (s *Source) part(deep, seqs int, l []around, known []api.Type) api.Type {
	if len(l) > 0 && s.Int(4) == 0 {
		if a := l[s.Int(len(l))]; a.free || seqs > a.seqs {
			return api.Type{Kind: api.TRef, ID: a.id}
		}
	}
	if len(known) > 0 && s.Int(5) == 0 {
		return known[s.Int(len(known))]
	}
	if deep == 0 {
		return s.plain()
	}
	t := api.Type{}
	switch s.Int(7) {
	case 0:
		t.Kind = api.TSeq
		t.N = s.Int(3) * 3
		t.Kids = []api.Type{s.part(deep-1, seqs+1, l, known)}
	case 1:
		t.Kind, t.N = api.TArray, 1+s.Int(3)
		t.Kids = []api.Type{s.part(deep-1, seqs, l, known)}
	case 2:
		t.Kind = api.TAlias
		t.ID, t.Name = s.id()
		t.Kids = []api.Type{s.part(deep-1, seqs, l, known)}
	case 3:
		t.Kind = api.TStruct
		t.ID, t.Name = s.id()
		s.members(&t, 1+s.Int(3), deep, seqs, append(l, around{t.ID, false, seqs}), known)
	case 4:
		return s.union(deep, seqs, l, known)
	default:
		return s.plain()
	}
	return t
}

func (s *Source) union(deep, seqs int, l []around, known []api.Type) api.Type {
	t := api.Type{Kind: api.TUnion, N: -1}
	t.ID, t.Name = s.id()
	tag, first := api.Type{Kind: api.TBool + s.Int(5)}, 0
	if s.Int(4) == 0 {
		tag = s.enum()
	}
	if tag.Kind == api.TShort || tag.Kind == api.TLong {
		first = -1
	}
	t.Kids = []api.Type{tag}
	s.members(&t, 1+s.Int(3), deep, seqs, append(l, around{t.ID, false, seqs}), known)
	for range t.Names {
		t.Labels = append(t.Labels, nil)
	}
	for i := range t.Names {
		t.Labels[i] = append(t.Labels[i], first+i)
	}
	if s.Int(2) == 0 {
		t.N = s.Int(len(t.Names))
		if s.Int(2) == 0 {
			t.Labels[t.N] = nil
		}
	}
	return t
}

// Known returns value types that are known together, some of them bases of others.
func (s *Source) Known() []api.Type {
	var l []api.Type
	for len(l) < 1+s.Int(4) {
		t := api.Type{Kind: api.TValue}
		t.ID, t.Name = s.id()
		if len(l) > 0 && s.Int(3) > 0 {
			base := l[s.Int(len(l))]
			t.Chain = append(t.Chain, base.Chain...)
			for _, name := range base.Names {
				_, kid, _ := kind.Member(base, name)
				t.Names = append(t.Names, name)
				t.Kids = append(t.Kids, kid) // a void, where it is too large: then the type is not valid
			}
		}
		for range s.Int(3) {
			t.Names = append(t.Names, "v"+strconv.Itoa(len(t.Names)))
			t.Kids = append(t.Kids, s.part(1, 0, []around{{t.ID, true, 0}}, l))
		}
		t.Chain = append(t.Chain, api.Part{ID: t.ID, N: len(t.Kids), Trunc: len(t.Chain) > 0 && s.Int(3) > 0})
		if kind.Valid(t) && kind.Size(t) < 60 {
			l = append(l, t)
		}
	}
	return l
}
