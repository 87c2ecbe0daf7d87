package tree

import (
	"strconv"
	"strings"
)

// Format writes a class in canonical form: a statement in a line, with parentheses as they are needed.
func Format(c *Class) string {
	w := &writer{}
	w.line("class " + c.Name + " of " + c.Path + " {")
	w.level++
	w.variables("field", c.Fields)
	for i := range c.Methods {
		m := &c.Methods[i]
		w.line("op " + m.Name + " {")
		w.level++
		w.variables("var", m.Vars)
		w.list(m.Body)
		w.level--
		w.line("}")
	}
	w.level--
	w.line("}")
	return w.String()
}

type writer struct {
	strings.Builder
	level int
}

func (w *writer) line(s string) {
	w.WriteString(strings.Repeat("  ", w.level) + s + "\n")
}

func (w *writer) variables(word string, l []Variable) {
	for _, v := range l {
		w.line(word + " " + v.Type + " " + v.Name + ";")
	}
}

func (w *writer) list(l []Stmt) {
	for _, s := range l {
		w.stmt(s)
	}
}

func (w *writer) block(l []Stmt) {
	w.level++
	w.list(l)
	w.level--
}

func (w *writer) stmt(s Stmt) {
	switch x := s.(type) {
	case *Assign:
		w.line(x.Name + " = " + text(x.Value) + ";")
	case *Return:
		if x.Value == nil {
			w.line("return;")
		} else {
			w.line("return " + text(x.Value) + ";")
		}
	case *Raise:
		w.line("raise " + x.Path + args(x.Args) + ";")
	case *Call:
		s := "call " + text(x.Target) + "." + x.Op + args(x.Args) + ";"
		if x.Name != "" {
			s = x.Name + " = " + s
		}
		w.line(s)
	case *If:
		w.line("if " + text(x.Cond) + " {")
		w.block(x.Then)
		if len(x.Else) > 0 {
			w.line("} else {")
			w.block(x.Else)
		}
		w.line("}")
	case *While:
		w.line("while " + text(x.Cond) + " {")
		w.block(x.Body)
		w.line("}")
	case *Try:
		w.line("try {")
		w.block(x.Body)
		w.line("} catch " + x.Name + " {")
		w.block(x.Catch)
		w.line("}")
	}
}

func args(l []*Expr) string {
	var out []string
	for _, x := range l {
		out = append(out, text(x))
	}
	return "(" + strings.Join(out, ", ") + ")"
}

func text(x *Expr) string {
	var b strings.Builder
	x.show(&b)
	return b.String()
}

// binds tells how strongly an expression holds together.
func (x *Expr) binds() int {
	switch {
	case x.Left == nil:
		return alone
	case x.Right == nil:
		return signed
	}
	return level(x.Op)
}

func (x *Expr) show(b *strings.Builder) {
	switch n := x.binds(); {
	case n == alone:
		b.WriteString(x.word())
	case n == signed:
		b.WriteString(x.Op)
		if x.Op == "not" {
			b.WriteByte(' ')
		}
		x.Left.side(b, x.Left.binds() < signed)
	default:
		x.Left.side(b, x.Left.binds() < n || n == comparing && x.Left.binds() == n)
		b.WriteString(" " + x.Op + " ")
		x.Right.side(b, x.Right.binds() <= n)
	}
}

func (x *Expr) side(b *strings.Builder, parens bool) {
	if parens {
		b.WriteByte('(')
	}
	x.show(b)
	if parens {
		b.WriteByte(')')
	}
}

func (x *Expr) word() string {
	switch x.Op {
	case Number:
		return strconv.Itoa(x.N)
	case Text:
		return `"` + x.S + `"`
	case Name:
		return x.S
	}
	return x.Op
}
