package stub

import (
	"slices"
	"strings"

	"intermede/api"
	"intermede/cdr"
	"intermede/codec"
	"intermede/fixed"
)

// maxChain is the most parts of a value type's chain, maxObject the most bytes of the text of an object.
const (
	maxChain  = 6
	maxObject = 1000
)

// deed is what steps of a number do.
type deed struct {
	write func(w *writing, s *step, d *api.Data)
	read  func(r *reading, s *step, d *api.Data, level int)
}

func deeds() [api.TRef]deed {
	octet := func(w *writing, s *step, d *api.Data) { w.done(w.Octet(d.N)) }
	long := func(w *writing, s *step, d *api.Data) { w.done(w.Long(d.N)) }
	text := func(w *writing, s *step, d *api.Data) { w.done(w.Text(d.S)) }
	return [api.TRef]deed{
		api.TVoid:   {func(*writing, *step, *api.Data) {}, func(*reading, *step, *api.Data, int) {}},
		api.TBool:   {octet, (*reading).flagData},
		api.TOctet:  {octet, (*reading).octetData},
		api.TChar:   {octet, (*reading).octetData},
		api.TShort:  {func(w *writing, s *step, d *api.Data) { w.done(w.Short(d.N)) }, (*reading).shortData},
		api.TLong:   {long, func(r *reading, s *step, d *api.Data, level int) { d.N = r.long() }},
		api.THuge:   {func(w *writing, s *step, d *api.Data) { w.done(w.Huge(d.N)) }, (*reading).hugeData},
		api.TText:   {text, func(r *reading, s *step, d *api.Data, level int) { d.S, _ = r.text(bound(s.t)) }},
		api.TFixed:  {(*writing).fixed, (*reading).fixed},
		api.TEnum:   {long, func(r *reading, s *step, d *api.Data, level int) { d.N = r.within(0, len(s.t.Names)-1) }},
		api.TStruct: {(*writing).members, (*reading).members},
		api.TExcept: {(*writing).members, (*reading).members},
		api.TUnion:  {(*writing).union, (*reading).union},
		api.TSeq:    {(*writing).sequence, (*reading).sequence},
		api.TArray:  {(*writing).elements, func(r *reading, s *step, d *api.Data, level int) { r.elements(s, d, s.t.N, level) }},
		api.TObject: {text, (*reading).object},
		api.TValue:  {(*writing).value, (*reading).value},
		api.TAny:    {(*writing).any, (*reading).any},
		api.TType:   {func(w *writing, s *step, d *api.Data) { w.typ(&d.Types[0]) }, func(r *reading, s *step, d *api.Data, level int) { d.Types = []api.Type{r.typ()} }},
	}
}

// bound is that of a text or a sequence.
func bound(t *api.Type) int {
	if t.N == 0 {
		return api.MaxItems
	}
	return t.N
}

// chosen returns the member of a union that a tag has, or -1.
func chosen(t *api.Type, tag int) int {
	if i := slices.IndexFunc(t.Labels, func(l []int) bool { return slices.Contains(l, tag) }); i >= 0 {
		return i
	}
	return t.N
}

// writing is steps while they write.
type writing struct {
	code
	*cdr.Writer
	big    bool
	nodes  []api.Node
	places map[int]int // of values that were written, by their nodes
}

// full is what is panicked with where there is no room for more bytes.
type full struct{}

func (w *writing) done(e api.Errno) {
	if e != api.OK {
		panic(full{})
	}
}

// written tells what is written.
func written(c code, nodes []api.Node, big bool, at int, write func(*writing)) (s string, e api.Errno) {
	defer func() {
		if p := recover(); p != nil {
			s, e = "", api.ErrLimit
		}
	}()
	w := &writing{code: c, Writer: cdr.NewWriter(big, at), big: big, nodes: nodes, places: map[int]int{}}
	write(w)
	return w.All(), api.OK
}

func (w *writing) write(n int, d *api.Data) {
	s := w.steps[n]
	deeds()[s.deed].write(w, &s, d)
}

func (w *writing) fixed(s *step, d *api.Data) {
	packed, _ := fixed.Pack(d.S, s.t.N, s.t.M)
	w.done(w.Raw(packed))
}

func (w *writing) members(s *step, d *api.Data) {
	for i := range d.Kids {
		w.write(s.parts[i], &d.Kids[i])
	}
}

func (w *writing) union(s *step, d *api.Data) {
	w.write(s.parts[0], &api.Data{N: d.N})
	for i := range d.Kids {
		w.write(s.parts[chosen(s.t, d.N)+1], &d.Kids[i])
	}
}

func (w *writing) sequence(s *step, d *api.Data) {
	w.done(w.Long(len(d.Kids)))
	w.elements(s, d)
}

func (w *writing) elements(s *step, d *api.Data) {
	for i := range d.Kids {
		w.write(s.parts[0], &d.Kids[i])
	}
}

// typ writes a type: its numbers stand in the frame as they would in one that begins at the same place within eight bytes.
func (w *writing) typ(t *api.Type) {
	s, e := codec.EncodeType(*t, w.big, w.Place()%8)
	w.done(e)
	w.done(w.Raw(s))
}

func (w *writing) any(s *step, d *api.Data) {
	w.done(w.Octet(len(d.Types)))
	for i := range d.Types {
		w.typ(&d.Types[i])
		first := w.add(&d.Types[i], false)
		w.write(first, &d.Kids[i])
	}
}

func (w *writing) value(s *step, d *api.Data) {
	place, met := w.places[d.N]
	switch {
	case d.N < 0:
		w.done(w.Long(0))
	case met:
		w.done(w.Long(-1))
		w.done(w.Long(place))
	default:
		w.newValue(d.N)
	}
}

func (w *writing) newValue(n int) {
	w.done(w.Long(1))
	w.places[n] = w.Place() - 4
	v := w.known[w.nodes[n].ID]
	chain := v.t.Chain
	least := len(chain) - 1
	for chain[least].Trunc {
		least--
	}
	w.done(w.Long(len(chain) - least))
	for i := len(chain) - 1; i >= least; i-- {
		w.done(w.Text(chain[i].ID))
	}
	w.done(w.Long(len(chain)))
	first := 0
	for _, part := range chain {
		w.done(w.Long(0))
		from := w.Place()
		for i := first; i < part.N; i++ {
			w.write(v.parts[i], &w.nodes[n].Kids[i])
		}
		w.done(w.Put(from-4, w.Place()-from))
		first = part.N
	}
}

// stop is what is panicked with where bytes are wrong: the place of the first one.
type stop int

// began is a value that began: its node, and the type as which it was taken.
type began struct {
	node int
	t    *api.Type
}

// reading is steps while they read.
type reading struct {
	code
	*cdr.Reader
	s      string
	big    bool
	at     int
	nodes  []api.Node
	places map[int]began
	count  int // of parts of data
}

// read lets steps read all bytes.
func read(c code, s string, big bool, at int, do func(*reading)) (nodes []api.Node, bad int, e api.Errno) {
	if len(s) > api.MaxBytes {
		return nil, 0, api.ErrLimit
	}
	r := &reading{code: c, Reader: cdr.NewReader(s, big, at), s: s, big: big, at: at, places: map[int]began{}}
	defer func() {
		switch p := recover().(type) {
		case nil:
			if r.Left() > 0 {
				nodes, bad, e = nil, r.Place(), api.ErrData
			}
		case stop:
			nodes, bad, e = nil, int(p), api.ErrData
		default:
			nodes, bad, e = nil, at, api.ErrData
		}
	}()
	do(r)
	return r.nodes, -1, api.OK
}

func (r *reading) done(e api.Errno) {
	if e != api.OK {
		panic(stop(r.Bad()))
	}
}

// read reads one thing to where it belongs.
func (r *reading) read(n int, d *api.Data, level int) {
	r.count++
	if r.count > api.MaxItems || level > api.MaxDeep {
		panic(stop(r.Place()))
	}
	s := r.steps[n]
	d.Kind = s.t.Kind
	deeds()[s.deed].read(r, &s, d, level)
}

func (r *reading) long() int {
	n, e := r.Long()
	r.done(e)
	return n
}

// within takes a long, which is wrong at its place if it is not between two numbers.
func (r *reading) within(least, most int) int {
	n := r.long()
	if n < least || n > most {
		panic(stop(r.Place() - 4))
	}
	return n
}

// many takes a number of things that have a byte each at least, between two numbers.
func (r *reading) many(least, most int) int {
	n := r.within(least, most)
	if n > r.Left() {
		panic(stop(r.Place() - 4))
	}
	return n
}

// text takes a text of at most so many bytes, and tells the place of its number.
func (r *reading) text(most int) (s string, place int) {
	n := r.within(1, most+1)
	place = r.Place() - 4
	if n > r.Left() {
		panic(stop(place))
	}
	s, e := r.Raw(n)
	r.done(e)
	switch zero := strings.IndexByte(s, 0); {
	case zero < 0:
		panic(stop(r.Place() - 1))
	case zero < n-1:
		panic(stop(place + 4 + zero))
	}
	return s[:n-1], place
}

func (r *reading) flagData(s *step, d *api.Data, level int) {
	if r.flag() {
		d.N = 1
	}
}

func (r *reading) flag() bool {
	b, e := r.Flag()
	r.done(e)
	return b
}

func (r *reading) octetData(s *step, d *api.Data, level int) {
	n, e := r.Octet()
	r.done(e)
	d.N = n
}

func (r *reading) shortData(s *step, d *api.Data, level int) {
	n, e := r.Short()
	r.done(e)
	d.N = n
}

func (r *reading) hugeData(s *step, d *api.Data, level int) {
	n, e := r.Huge()
	r.done(e)
	d.N = n
}

func (r *reading) fixed(s *step, d *api.Data, level int) {
	place := r.Place()
	n, _ := fixed.Length(s.t.N)
	packed, e := r.Raw(n)
	r.done(e)
	d.S, _, e = fixed.Unpack(packed, s.t.N, s.t.M)
	if e != api.OK {
		panic(stop(place))
	}
}

func (r *reading) object(s *step, d *api.Data, level int) {
	text, place := r.text(maxObject)
	if strings.ContainsFunc(text, func(c rune) bool { return c < ' ' || c > '~' }) {
		panic(stop(place))
	}
	d.S = text
}

// parts makes room for the parts of data.
func parts(d *api.Data, n int) {
	if n > 0 {
		d.Kids = make([]api.Data, n)
	}
}

func (r *reading) members(s *step, d *api.Data, level int) {
	parts(d, len(s.parts))
	for i, part := range s.parts {
		r.read(part, &d.Kids[i], level+1)
	}
}

func (r *reading) elements(s *step, d *api.Data, n, level int) {
	parts(d, n)
	for i := range n {
		r.read(s.parts[0], &d.Kids[i], level+1)
	}
}

func (r *reading) sequence(s *step, d *api.Data, level int) {
	r.elements(s, d, r.many(0, bound(s.t)), level)
}

func (r *reading) union(s *step, d *api.Data, level int) {
	tag := r.steps[s.parts[0]]
	deeds()[tag.deed].read(r, &tag, d, level)
	if i := chosen(s.t, d.N); i >= 0 {
		parts(d, 1)
		r.read(s.parts[i+1], &d.Kids[0], level+1)
	}
}

// typ takes a type, as one that stands in a frame that begins here.
func (r *reading) typ() api.Type {
	from := r.Place()
	t, used, bad, e := codec.DecodeType(r.s[from-r.at:], r.big, from%8)
	if e != api.OK {
		panic(stop(from - from%8 + bad))
	}
	_, e = r.Raw(used)
	r.done(e)
	return t
}

func (r *reading) any(s *step, d *api.Data, level int) {
	if !r.flag() {
		return
	}
	place := r.Place()
	if r.Left() > 0 {
		switch int(r.s[place-r.at]) {
		case api.TVoid, api.TExcept:
			panic(stop(place))
		}
	}
	d.Types = []api.Type{r.typ()}
	first := r.add(&d.Types[0], false)
	parts(d, 1)
	r.read(first, &d.Kids[0], level+1)
}

func inChain(t *api.Type, id string) bool {
	return slices.ContainsFunc(t.Chain, func(p api.Part) bool { return p.ID == id })
}

func (r *reading) value(s *step, d *api.Data, level int) {
	switch r.within(-1, 1) {
	case 0:
		d.N = -1
	case -1:
		v, ok := r.places[r.long()]
		if !ok || !inChain(v.t, s.t.ID) {
			panic(stop(r.Place() - 4))
		}
		d.N = v.node
	default:
		d.N = r.newValue(s.t.ID)
	}
}

func (r *reading) newValue(id string) int {
	place, n := r.Place()-4, len(r.nodes)
	if n == api.MaxSize {
		panic(stop(place))
	}
	v, first := r.taken(id)
	r.nodes = append(r.nodes, api.Node{ID: v.t.ID})
	r.places[place] = began{n, v.t}
	most := maxChain
	if first {
		most = len(v.t.Chain)
	}
	kids := make([]api.Data, len(v.parts))
	from := 0
	for i := range r.many(len(v.t.Chain), most) {
		length := r.within(0, api.MaxBytes)
		start := r.Place()
		if length > r.Left() {
			panic(stop(start - 4))
		}
		if i >= len(v.t.Chain) {
			_, e := r.Raw(length)
			r.done(e)
			continue
		}
		for ; from < v.t.Chain[i].N; from++ {
			r.read(v.parts[from], &kids[from], 1)
		}
		if r.Place() != start+length {
			panic(stop(start - 4))
		}
	}
	if len(kids) > 0 {
		r.nodes[n].Kids = kids
	}
	return n
}

// taken takes the ids of a value, and tells the type as which it is taken: the first one that may stand here.
func (r *reading) taken(id string) (v value, first bool) {
	place := 0
	for i := range r.within(1, maxChain) {
		s, at := r.text(api.MaxBytes)
		if i == 0 {
			place = at
		}
		if known, there := r.known[s]; there && v.t == nil && inChain(known.t, id) {
			v, first = known, i == 0
		}
	}
	if v.t == nil {
		panic(stop(place))
	}
	return v, first
}
