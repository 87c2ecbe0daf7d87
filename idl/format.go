package idl

import (
	"strings"

	"intermede/api"
)

// Format writes declarations.
func Format(l []api.Decl) string {
	if !Valid(l) {
		return ""
	}
	return written(l)
}

func written(l []api.Decl) string {
	w := &writer{}
	w.list(l)
	return w.String()
}

// writer writes declarations, each in a line behind the blanks of its level.
type writer struct {
	strings.Builder
	level int
}

func (w *writer) line(s string) {
	w.WriteString(strings.Repeat("  ", w.level) + s + "\n")
}

func (w *writer) list(l []api.Decl) {
	for i := range l {
		w.decl(&l[i])
	}
}

func (w *writer) block(head string, kids []api.Decl) {
	w.line(head + " {")
	w.level++
	w.list(kids)
	w.level--
	w.line("};")
}

func (w *writer) decl(d *api.Decl) {
	switch d.Kind {
	case api.DModule:
		w.block("module "+d.Name, d.Kids)
	case api.DInterface:
		w.block("interface "+d.Name+bases("", d.Names), d.Kids)
	case api.DForward:
		w.line("interface " + d.Name + ";")
	case api.DStruct:
		w.block("struct "+d.Name, d.Kids)
	case api.DUnion:
		w.block("union "+d.Name+" switch ("+d.Type+")", d.Kids)
	case api.DEnum:
		w.line("enum " + d.Name + " { " + strings.Join(d.Names, ", ") + " };")
	case api.DAlias:
		w.line("typedef " + d.Type + " " + d.Name + ";")
	case api.DConst:
		w.line("const " + d.Type + " " + d.Name + " = " + d.Expr + ";")
	case api.DExcept:
		w.block("exception "+d.Name, d.Kids)
	case api.DValue:
		w.block("valuetype "+d.Name+bases(flagged(d.Flag, "truncatable "), d.Names), d.Kids)
	case api.DMember:
		w.line(labels(d.Names) + d.Type + " " + d.Name + ";")
	case api.DOp:
		w.line(flagged(d.Flag, "oneway ") + d.Type + " " + d.Name + "(" + params(d.Kids) + ")" + raises(d.Names) + ";")
	case api.DAttr:
		w.line(flagged(d.Flag, "readonly ") + "attribute " + d.Type + " " + d.Name + ";")
	case api.DVersion:
		w.line("version " + d.Name + " " + d.Expr + ";")
	}
}

func flagged(flag bool, word string) string {
	if flag {
		return word
	}
	return ""
}

func bases(word string, names []string) string {
	if len(names) == 0 {
		return ""
	}
	return " : " + word + strings.Join(names, ", ")
}

func labels(names []string) string {
	s := ""
	for _, name := range names {
		if name != "default" {
			name = "case " + name
		}
		s += name + ": "
	}
	return s
}

func params(l []api.Decl) string {
	var out []string
	for i := range l {
		way := ""
		switch l[i].N {
		case api.DIn:
			way = "in"
		case api.DOut:
			way = "out"
		case api.DInout:
			way = "inout"
		}
		out = append(out, way+" "+l[i].Type+" "+l[i].Name)
	}
	return strings.Join(out, ", ")
}

func raises(names []string) string {
	if len(names) == 0 {
		return ""
	}
	return " raises (" + strings.Join(names, ", ") + ")"
}
