package codec

import (
	"strings"

	"intermede/api"
	"intermede/cdr"
	"intermede/fixed"
	"intermede/kind"
)

// maxObject is the most bytes of the text of an object.
const maxObject = 1000

// stop is what a reader panics with: the place of the first wrong byte.
type stop int

// began is a value that began at a place: its node, and the type as which that was taken.
type began struct {
	node int
	t    *api.Type
}

// reader reads types and data: the values that began are kept by the places of their longs.
type reader struct {
	*cdr.Reader
	known  lookup
	nodes  []api.Node
	places map[int]began
	parts  int
}

// reading lets a function read bytes, and tells the place of the first wrong one.
func reading(s string, big bool, at int, known []api.Type, read func(*reader)) (r *reader, bad int, e api.Errno) {
	if len(s) > api.MaxBytes {
		return nil, 0, api.ErrLimit
	}
	defer func() {
		switch p := recover().(type) {
		case nil:
		case stop:
			r, bad, e = nil, int(p), api.ErrData
		default:
			r, bad, e = nil, at, api.ErrData
		}
	}()
	r = &reader{Reader: cdr.NewReader(s, big, at), known: look(known), places: map[int]began{}}
	read(r)
	return r, -1, api.OK
}

func (r *reader) done(e api.Errno) {
	if e != api.OK {
		panic(stop(r.Bad()))
	}
}

func (r *reader) long() int {
	n, e := r.Long()
	r.done(e)
	return n
}

func (r *reader) octet() int {
	n, e := r.Octet()
	r.done(e)
	return n
}

func (r *reader) flag() bool {
	b, e := r.Flag()
	r.done(e)
	return b
}

// within takes a long, which is wrong at its place if it is not between two numbers.
func (r *reader) within(least, most int) int {
	n := r.long()
	if n < least || n > most {
		panic(stop(r.Place() - 4))
	}
	return n
}

// many takes a number of things that have a byte each at least, between two numbers.
func (r *reader) many(least, most int) int {
	n := r.within(least, most)
	if n > r.Left() {
		panic(stop(r.Place() - 4))
	}
	return n
}

// count takes a number of things, of which there may be none.
func (r *reader) count(most int) int { return r.many(0, most) }

// text takes a text of at most so many bytes, and tells the place of its number.
func (r *reader) text(most int) (s string, place int) {
	n := r.within(1, most+1)
	place = r.Place() - 4
	if n > r.Left() {
		panic(stop(place))
	}
	s, e := r.Raw(n)
	r.done(e)
	zero := strings.IndexByte(s, 0)
	if zero < 0 {
		panic(stop(r.Place() - 1))
	}
	if zero < n-1 {
		panic(stop(place + 4 + zero))
	}
	return s[:zero], place
}

// rightText takes a text that is wrong at its number if it is not as asked.
func (r *reader) rightText(most int, right func(string) bool) string {
	s, place := r.text(most)
	if !right(s) {
		panic(stop(place))
	}
	return s
}

func printable(s string) bool {
	for i := range len(s) {
		if s[i] < ' ' || s[i] > '~' {
			return false
		}
	}
	return true
}

// bound is that of a text or a sequence.
func bound(t *api.Type) int {
	if t.N == 0 {
		return api.MaxItems
	}
	return t.N
}

// readers read data of a kind: of a bare type, at a level.
func readers() [api.TRef]func(r *reader, x typ, level int) api.Data {
	return [api.TRef]func(r *reader, x typ, level int) api.Data{
		api.TVoid: (*reader).nothing, api.TBool: (*reader).number, api.TOctet: (*reader).number, api.TChar: (*reader).number, api.TShort: (*reader).number,
		api.TLong: (*reader).number, api.THuge: (*reader).number, api.TText: (*reader).textData, api.TFixed: (*reader).fixed, api.TEnum: (*reader).number,
		api.TStruct: (*reader).members, api.TExcept: (*reader).members, api.TUnion: (*reader).union, api.TSeq: (*reader).sequence, api.TArray: (*reader).array,
		api.TObject: (*reader).object, api.TValue: (*reader).value, api.TAny: (*reader).any, api.TType: (*reader).typeData,
	}
}

func (r *reader) data(x typ, level int) api.Data {
	r.parts++
	if r.parts > api.MaxItems || level > api.MaxDeep {
		panic(stop(r.Place()))
	}
	x = x.bare()
	d := readers()[x.t.Kind](r, x, level)
	d.Kind = x.t.Kind
	return d
}

func (r *reader) nothing(typ, int) api.Data { return api.Data{} }

func (r *reader) number(x typ, level int) api.Data {
	var n int
	var e api.Errno
	switch x.t.Kind {
	case api.TBool:
		if r.flag() {
			n = 1
		}
	case api.TOctet, api.TChar:
		n = r.octet()
	case api.TShort:
		n, e = r.Short()
	case api.THuge:
		n, e = r.Huge()
	case api.TEnum:
		n = r.within(0, len(x.t.Names)-1)
	default:
		n = r.long()
	}
	r.done(e)
	return api.Data{N: n}
}

func (r *reader) textData(x typ, level int) api.Data {
	s, _ := r.text(bound(x.t))
	return api.Data{S: s}
}

func (r *reader) object(x typ, level int) api.Data {
	return api.Data{S: r.rightText(maxObject, printable)}
}

func (r *reader) fixed(x typ, level int) api.Data {
	place := r.Place()
	n, _ := fixed.Length(x.t.N)
	s, e := r.Raw(n)
	r.done(e)
	a, _, e := fixed.Unpack(s, x.t.N, x.t.M)
	if e != api.OK {
		panic(stop(place))
	}
	return api.Data{S: a}
}

func (r *reader) members(x typ, level int) api.Data {
	var d api.Data
	for i := range x.t.Kids {
		d.Kids = append(d.Kids, r.data(x.kid(i), level+1))
	}
	return d
}

func (r *reader) union(x typ, level int) api.Data {
	d := r.number(x.kid(0), level)
	if i := chosen(x.t, d.N); i >= 0 {
		d.Kids = []api.Data{r.data(x.kid(i+1), level+1)}
	}
	return d
}

func (r *reader) elements(x typ, n, level int) api.Data {
	var d api.Data
	for range n {
		d.Kids = append(d.Kids, r.data(x.kid(0), level+1))
	}
	return d
}

func (r *reader) sequence(x typ, level int) api.Data {
	return r.elements(x, r.count(bound(x.t)), level)
}

func (r *reader) array(x typ, level int) api.Data {
	return r.elements(x, x.t.N, level)
}

func (r *reader) any(x typ, level int) api.Data {
	if !r.flag() {
		return api.Data{}
	}
	t := r.newType(partKind)
	return api.Data{Types: []api.Type{t}, Kids: []api.Data{r.data(typ{t: &t}, level+1)}}
}

func (r *reader) typeData(x typ, level int) api.Data {
	return api.Data{Types: []api.Type{r.newType(anyKind)}}
}

func (r *reader) value(x typ, level int) api.Data {
	switch r.within(-1, 1) {
	case 0:
		return api.Data{N: -1}
	case -1:
		v, ok := r.places[r.long()]
		if !ok || !inChain(v.t, x.t.ID) {
			panic(stop(r.Place() - 4))
		}
		return api.Data{N: v.node}
	}
	place, n := r.Place()-4, len(r.nodes)
	if n == api.MaxSize {
		panic(stop(place))
	}
	t, first := r.taken(x.t.ID)
	r.nodes = append(r.nodes, api.Node{ID: t.ID})
	r.places[place] = began{n, t}
	kids := r.chain(t, first)
	r.nodes[n].Kids = kids
	return api.Data{N: n}
}

// taken takes the ids of a value, and tells the type as which it is taken: the first one that may stand here.
func (r *reader) taken(id string) (t *api.Type, first bool) {
	firstPlace := 0
	for i := range r.within(1, maxChain) {
		s, place := r.text(api.MaxBytes)
		if i == 0 {
			firstPlace = place
		}
		if known := r.known[s]; t == nil && known != nil && inChain(known, id) {
			t, first = known, i == 0
		}
	}
	if t == nil {
		panic(stop(firstPlace))
	}
	return t, first
}

// chain takes the parts of a value's chain: those beyond its type are skipped.
func (r *reader) chain(t *api.Type, first bool) []api.Data {
	most := maxChain
	if first {
		most = len(t.Chain)
	}
	var kids []api.Data
	for i := range r.many(len(t.Chain), most) {
		n := r.within(0, api.MaxBytes)
		from := r.Place()
		if n > r.Left() {
			panic(stop(from - 4))
		}
		if i >= len(t.Chain) {
			_, e := r.Raw(n)
			r.done(e)
			continue
		}
		for len(kids) < t.Chain[i].N {
			kids = append(kids, r.data(typ{t: t}.kid(len(kids)), 1))
		}
		if r.Place() != from+n {
			panic(stop(from - 4))
		}
	}
	return kids
}

// Which kinds a type may be of.
type where int

const (
	anyKind  where = iota // a type that stands alone
	partKind              // a part
	tagKind               // the tag of a union
)

// may reports whether a type at a level may be of a kind.
func (w where) may(k int) bool {
	switch w {
	case anyKind:
		return k <= api.TRef
	case tagKind:
		return k >= api.TBool && k <= api.TLong || k == api.TEnum
	}
	return k <= api.TRef && k != api.TVoid && k != api.TExcept
}

// around is a type around a part: how many sequences are around it.
type around struct{ kind, seqs int }

// leads reports whether references within so many sequences may lead to a type.
func (a around) leads(seqs int) bool {
	return a.kind == api.TValue || (a.kind == api.TStruct || a.kind == api.TUnion) && seqs > a.seqs
}

// typeReader reads one type: what is around a part is kept by ids.
type typeReader struct {
	*reader
	around map[string]around
	parts  int
	seqs   int
}

// newType takes a type that stands by itself.
func (r *reader) newType(w where) api.Type {
	tr := &typeReader{reader: r, around: map[string]around{}}
	return tr.typ(w, 1)
}

// mayRefer reports whether any reference may stand here.
func (r *typeReader) mayRefer() bool {
	for _, a := range r.around {
		if a.leads(r.seqs) {
			return true
		}
	}
	return false
}

func (r *typeReader) typ(w where, level int) api.Type {
	place := r.Place()
	t := api.Type{Kind: r.octet()}
	r.parts++
	if !w.may(t.Kind) || level > api.MaxDeep || r.parts > api.MaxSize || t.Kind == api.TRef && !r.mayRefer() {
		panic(stop(place))
	}
	r.heading(&t)
	outer, found := r.around[t.ID]
	if t.ID != "" && t.Kind != api.TRef {
		r.around[t.ID] = around{t.Kind, r.seqs}
	}
	r.inner(&t, level)
	if t.Kind == api.TRef {
		if !found || !outer.leads(r.seqs) {
			panic(stop(place))
		}
		return t
	}
	if found && t.ID != "" || !rightAlone(t) {
		panic(stop(place))
	}
	delete(r.around, t.ID)
	return t
}

// rightAlone asks a type for what is wrong only as a whole: its parts were asked before.
func rightAlone(t api.Type) bool {
	kids := make([]api.Type, len(t.Kids))
	for i := range kids {
		kids[i].Kind = api.TLong
	}
	if t.Kind == api.TUnion {
		kids[0] = t.Kids[0]
	}
	t.Kids = kids
	return kind.Valid(t)
}

func (r *typeReader) name() string { return r.rightText(api.MaxName, kind.Name) }

func (r *typeReader) id() string { return r.rightText(api.MaxName, kind.ID) }

// heading takes what stands before the parts of a type.
func (r *typeReader) heading(t *api.Type) {
	switch t.Kind {
	case api.TText, api.TSeq, api.TArray:
		t.N = r.long()
	case api.TFixed:
		t.N = r.octet()
		t.M = r.octet()
	case api.TEnum, api.TStruct, api.TExcept, api.TUnion, api.TAlias, api.TObject:
		t.ID = r.id()
		t.Name = r.name()
	case api.TValue:
		t.Name = r.name()
		for range r.count(maxChain) {
			part := api.Part{ID: r.id()}
			part.N = r.long()
			part.Trunc = r.flag()
			t.Chain = append(t.Chain, part)
			t.ID = part.ID
		}
	case api.TRef:
		t.ID = r.id()
	}
}

func (r *typeReader) inner(t *api.Type, level int) {
	switch t.Kind {
	case api.TEnum:
		for range r.count(api.MaxKids) {
			t.Names = append(t.Names, r.name())
		}
	case api.TStruct, api.TExcept, api.TValue:
		for range r.count(api.MaxKids) {
			t.Names = append(t.Names, r.name())
			t.Kids = append(t.Kids, r.typ(partKind, level+1))
		}
	case api.TUnion:
		r.unionType(t, level)
	case api.TSeq:
		r.seqs++
		t.Kids = []api.Type{r.typ(partKind, level+1)}
		r.seqs--
	case api.TArray, api.TAlias:
		t.Kids = []api.Type{r.typ(partKind, level+1)}
	}
}

func (r *typeReader) unionType(t *api.Type, level int) {
	t.Kids = []api.Type{r.typ(tagKind, level+1)}
	t.N = r.long()
	for range r.count(api.MaxKids) {
		t.Names = append(t.Names, r.name())
		t.Kids = append(t.Kids, r.typ(partKind, level+1))
		var labels []int
		for range r.count(maxLabels) {
			labels = append(labels, r.long())
		}
		t.Labels = append(t.Labels, labels)
	}
}
