// Package tree has the trees of texts of classes: layer 10 reads and checks them, layer 11 does them.
package tree

// Class is a class.
type Class struct {
	Name    string
	Line    int // of its name
	Path    string
	Fields  []Variable
	Methods []Method
}

// Variable is a field or a variable, with its type as it is written.
type Variable struct {
	Name, Type string
	Line       int
}

// Method is a method.
type Method struct {
	Name string
	Line int // of its name
	Vars []Variable
	Body []Stmt
}

// Stmt is a statement.
type Stmt interface {
	// At returns the line in which the statement begins.
	At() int
}

// place is where a statement begins.
type place struct{ Line int }

// At returns the line.
func (p place) At() int { return p.Line }

// Assign puts a value into a variable.
type Assign struct {
	place
	Name  string
	Value *Expr
}

// Return ends a method, with a value or none.
type Return struct {
	place
	Value *Expr
}

// Raise raises an exception.
type Raise struct {
	place
	Path string
	Args []*Expr
}

// Call calls an object; its result goes into a variable, if there is a name.
type Call struct {
	place
	Name   string
	Target *Expr
	Op     string
	Args   []*Expr
}

// If does one of two parts.
type If struct {
	place
	Cond       *Expr
	Then, Else []Stmt
}

// While does its part again and again.
type While struct {
	place
	Cond *Expr
	Body []Stmt
}

// Try does its part; what goes wrong in it is told to a variable, and the other part is done.
type Try struct {
	place
	Body  []Stmt
	Name  string
	Catch []Stmt
}

// The sorts of expressions that are a word.
const (
	Number = "number"
	Text   = "text"
	Name   = "name"
	True   = "true"
	False  = "false"
	Nil    = "nil"
	Self   = "self"
)

// Expr is an expression: an operator with its sides, a sign (without a right side), or a word.
type Expr struct {
	Op          string
	Left, Right *Expr
	N           int    // of a number
	S           string // of a text, a name
}

// Each tells the statements of a list and those within them, in the order of the text.
func Each(l []Stmt, told func(Stmt)) {
	for _, s := range l {
		told(s)
		switch x := s.(type) {
		case *If:
			Each(x.Then, told)
			Each(x.Else, told)
		case *While:
			Each(x.Body, told)
		case *Try:
			Each(x.Body, told)
			Each(x.Catch, told)
		}
	}
}
