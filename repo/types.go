package repo

import (
	"strconv"
	"strings"

	"intermede/api"
	"intermede/copies"
	"intermede/data"
	"intermede/idl"
)

// bareType passes aliases.
func bareType(t api.Type) api.Type {
	for t.Kind == api.TAlias {
		t = t.Kids[0]
	}
	return t
}

func size(t *api.Type) int {
	n := 1
	for i := range t.Kids {
		n += size(&t.Kids[i])
	}
	return n
}

func depth(t *api.Type) int {
	n := 0
	for i := range t.Kids {
		n = max(n, depth(&t.Kids[i]))
	}
	return n + 1
}

// tooLarge reports whether layer 3 does not take a type for its size.
func tooLarge(t *api.Type) bool {
	return size(t) > api.MaxSize || depth(t) > api.MaxDeep
}

// typeReader reads the words of a type, from the left.
type typeReader struct {
	*checker
	words []string
	at    int
	seqs  int                 // sequences around
	names *entry              // what the type is, if it is a path alone
	right func(kind int) bool // which kinds may stand here, without aliases; nil: all
}

// typ reads a type that is written in a scope.
func (c *checker) typ(text string) api.Type {
	t, _ := c.typeOf(text, nil)
	return t
}

// typeOf reads a type of some kinds, and tells what is named if it is a path alone.
func (c *checker) typeOf(text string, right func(kind int) bool) (api.Type, *entry) {
	words, _, _ := idl.Words(text)
	r := &typeReader{checker: c, words: words, right: right}
	t := r.read()
	if tooLarge(&t) {
		c.wrong(api.ErrLimit)
	}
	return t, r.names
}

// basics are the types of one word, by kinds.
var basics = [api.TType + 1]string{api.TVoid: "void", api.TBool: "boolean", api.TOctet: "octet", api.TChar: "char", api.TShort: "short", api.TLong: "long", api.THuge: "huge", api.TAny: "any", api.TType: "type"}

// basic returns the kind that one word tells.
func basic(word string) (int, bool) {
	for k := range len(basics) {
		if basics[k] != "" && basics[k] == word {
			return k, true
		}
	}
	return 0, false
}

// ask asks for the kind of the whole type: its first word tells it, ahead of what is wrong behind.
func (r *typeReader) ask(kind int) {
	if r.right != nil && !r.right(kind) {
		r.wrong(api.ErrKind)
	}
	r.right = nil
}

func (r *typeReader) read() api.Type {
	word := r.words[r.at]
	if k, there := basic(word); there {
		r.ask(k)
		r.at++
		return api.Type{Kind: k}
	}
	switch word {
	case "Object":
		r.ask(api.TObject)
		r.at++
		return api.Type{Kind: api.TObject, ID: objectID, Name: "Object"}
	case "string":
		r.ask(api.TText)
		r.at++
		t := api.Type{Kind: api.TText}
		if r.at < len(r.words) && r.words[r.at] == "<" {
			t.N = r.bound(1, api.MaxItems)
		}
		return t
	case "fixed":
		r.ask(api.TFixed)
		r.at++
		t := api.Type{Kind: api.TFixed, N: r.bound(1, api.MaxDigits)}
		t.M = r.bound(0, t.N)
		return t
	case "sequence", "array":
		return r.elements(word == "sequence")
	}
	return r.readPath()
}

func (r *typeReader) elements(sequence bool) api.Type {
	t := api.Type{Kind: api.TArray}
	if sequence {
		t.Kind = api.TSeq
		r.seqs++
	}
	r.ask(t.Kind)
	r.at += 2
	t.Kids = []api.Type{r.read()}
	r.names = nil
	if sequence {
		r.seqs--
	}
	if r.words[r.at] == "," {
		t.N = r.bound(1, api.MaxItems)
	} else {
		r.closes()
	}
	return t
}

// closes passes a bracket: the word >> stands for two.
func (r *typeReader) closes() {
	if r.words[r.at] == ">>" {
		r.words[r.at] = ">"
		return
	}
	r.at++
}

// bound reads an expression behind a bracket or a comma; the next bracket is passed, the next comma is not.
func (r *typeReader) bound(least, most int) int {
	from, deep := r.at+1, 0
	for r.at = from; deep > 0 || r.words[r.at] != "," && r.words[r.at] != ">" && r.words[r.at] != ">>"; r.at++ {
		switch r.words[r.at] {
		case "(":
			deep++
		case ")":
			deep--
		}
	}
	n := r.number(strings.Join(r.words[from:r.at], " "))
	if n < least || n > most {
		r.wrong(api.ErrRange)
	}
	if r.words[r.at] != "," {
		r.closes()
	}
	return n
}

func (r *typeReader) readPath() api.Type {
	from := r.at
	for r.at < len(r.words) && inPath(r.words[r.at]) {
		r.at++
	}
	e := r.resolve(strings.Join(r.words[from:r.at], ""))
	if e == nil {
		r.wrong(api.ErrName)
	}
	r.names = e
	switch e.kind {
	case api.DEnum, api.DAlias:
		r.ask(bareType(e.t).Kind)
		return copies.Type(e.t)
	case api.DInterface, api.DStruct, api.DUnion, api.DValue:
		r.ask(api.TStruct) // where not all kinds may stand none of these may
	default:
		r.wrong(api.ErrKind)
	}
	switch {
	case e.complete || e.kind == api.DInterface:
		return copies.Type(e.t)
	case e.kind != api.DValue && r.seqs == 0:
		r.wrong(api.ErrCircle)
	}
	return api.Type{Kind: api.TRef, ID: r.id(e.path)}
}

// inPath reports whether a word is a part of a path.
func inPath(word string) bool {
	c := word[0]
	return word == "::" || c >= 'a' && c <= 'z' || c >= 'A' && c <= 'Z'
}

// operand is a word of an expression that stands for a value, or a path.
type operand struct {
	word  string
	entry *entry // of a path
	alone bool   // it is the whole expression
}

// constant tells whether an operand is a constant of one of some kinds of types.
func (o operand) constant(kinds ...int) bool {
	if o.entry == nil || o.entry.kind != api.DConst {
		return false
	}
	is := bareType(o.entry.t).Kind
	for _, k := range kinds {
		if k == is {
			return true
		}
	}
	return false
}

func (o operand) isText() bool { return o.word[0] == '"' || o.constant(api.TText) }

func (o operand) isFixed() bool { return o.constant(api.TFixed) }

func (o operand) isNumber() bool {
	if o.entry == nil {
		return o.word[0] != '"'
	}
	return o.entry.kind == anEnumerator || o.entry.kind == api.DConst && !o.isText() && !o.isFixed()
}

func (o operand) text() string {
	if o.entry != nil {
		return o.entry.value.S
	}
	return o.word[1 : len(o.word)-1]
}

// operands tells the operands of an expression; from the left each of them must be there, and be right.
func (c *checker) operands(expr string, right func(o operand) bool) []operand {
	words, _, _ := idl.Words(expr)
	var l []operand
	for i := 0; i < len(words); i++ {
		o := operand{word: words[i]}
		switch first := words[i][0]; {
		case inPath(words[i]):
			for i+1 < len(words) && inPath(words[i+1]) {
				i++
				o.word += words[i]
			}
			if o.entry = c.resolve(o.word); o.entry == nil {
				c.wrong(api.ErrName)
			}
		case first != '"' && (first < '0' || first > '9'):
			continue
		}
		o.alone = o.word == expr
		if !right(o) {
			c.wrong(api.ErrKind)
		}
		l = append(l, o)
	}
	return l
}

// number returns the value of an expression where a number is asked.
func (c *checker) number(expr string) int {
	return c.reckoned(expr, c.operands(expr, operand.isNumber))
}

func (c *checker) reckoned(expr string, l []operand) int {
	var names []string
	var values []int
	for _, o := range l {
		if o.entry != nil {
			names = append(names, o.word)
			values = append(values, o.entry.value.N)
		}
	}
	n, e := idl.Value(expr, names, values)
	if e != api.OK {
		c.wrong(api.ErrRange)
	}
	return n
}

// enumerator returns the number of an enumerator of an enumeration.
func (c *checker) enumerator(t api.Type, expr string) int {
	l := c.operands(expr, func(o operand) bool {
		return o.alone && o.entry != nil && o.entry.kind == anEnumerator && o.entry.of.t.ID == t.ID
	})
	return l[0].entry.value.N
}

// text returns the value of an expression where a text is asked.
func (c *checker) text(expr string) string {
	l := c.operands(expr, func(o operand) bool { return o.alone && o.isText() })
	return l[0].text()
}

// decimal returns the value of an expression where a decimal is asked: a whole number, or a text alone.
func (c *checker) decimal(t api.Type, expr string) string {
	l := c.operands(expr, func(o operand) bool {
		return o.isNumber() || o.alone && (o.isText() || o.isFixed())
	})
	s := ""
	if l[0].isNumber() {
		s = strconv.Itoa(c.reckoned(expr, l))
	} else {
		s = l[0].text()
	}
	_, behind, _ := strings.Cut(s, ".")
	if !isDecimal(s, api.MaxDigits, len(behind)) {
		c.wrong(api.ErrKind)
	}
	if len(behind) > t.M {
		c.wrong(api.ErrRange)
	}
	if behind == "" && t.M > 0 {
		s += "."
	}
	s += strings.Repeat("0", t.M-len(behind))
	if !isDecimal(s, t.N, t.M) {
		c.wrong(api.ErrRange)
	}
	return s
}

// isDecimal reports whether a text is a decimal with so many digits and a scale.
func isDecimal(s string, digits, scale int) bool {
	return data.Valid(api.Type{Kind: api.TFixed, N: digits, M: scale}, nil, api.Graph{Root: api.Data{Kind: api.TFixed, S: s}})
}
