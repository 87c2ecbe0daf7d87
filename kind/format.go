package kind

import (
	"strconv"
	"strings"

	"intermede/api"
)

// words are those with which the texts of types begin, by kinds.
var words = [api.TRef + 1]string{"void", "bool", "octet", "char", "short", "long", "huge", "text", "fixed", "enum", "struct", "union", "seq", "array", "alias", "except", "object", "value", "any", "type", "ref"}

// Format writes a type.
func Format(t api.Type) string {
	if !Valid(t) {
		return ""
	}
	var b strings.Builder
	write(&b, &t)
	return b.String()
}

func write(b *strings.Builder, t *api.Type) {
	b.WriteString(words[t.Kind])
	switch t.Kind {
	case api.TText:
		if t.N > 0 {
			b.WriteString("<" + strconv.Itoa(t.N) + ">")
		}
	case api.TFixed:
		b.WriteString("<" + strconv.Itoa(t.N) + "," + strconv.Itoa(t.M) + ">")
	case api.TEnum:
		b.WriteString(" " + t.ID + " " + t.Name + "{" + strings.Join(t.Names, ",") + "}")
	case api.TStruct, api.TExcept:
		b.WriteString(" " + t.ID + " " + t.Name)
		writeMembers(b, t)
	case api.TUnion:
		writeUnion(b, t)
	case api.TSeq, api.TArray:
		b.WriteByte('<')
		write(b, &t.Kids[0])
		if t.N > 0 {
			b.WriteString("," + strconv.Itoa(t.N))
		}
		b.WriteByte('>')
	case api.TAlias:
		b.WriteString(" " + t.ID + " " + t.Name + " ")
		write(b, &t.Kids[0])
	case api.TObject:
		b.WriteString(" " + t.ID + " " + t.Name)
	case api.TValue:
		b.WriteString(" " + t.Name + "[" + chainText(t.Chain) + "]")
		writeMembers(b, t)
	case api.TRef:
		b.WriteString(" " + t.ID)
	}
}

func writeMembers(b *strings.Builder, t *api.Type) {
	b.WriteByte('{')
	for i, name := range t.Names {
		writeMember(b, name, &t.Kids[i])
	}
	b.WriteByte('}')
}

func writeMember(b *strings.Builder, name string, t *api.Type) {
	b.WriteString(name + " ")
	write(b, t)
	b.WriteByte(';')
}

func writeUnion(b *strings.Builder, t *api.Type) {
	b.WriteString(" " + t.ID + " " + t.Name + "(")
	write(b, &t.Kids[0])
	b.WriteString("){")
	for i, name := range t.Names {
		b.WriteString(labelText(t.Labels[i], i == t.N) + ":")
		writeMember(b, name, &t.Kids[i+1])
	}
	b.WriteByte('}')
}

func labelText(labels []int, isDefault bool) string {
	if len(labels) == 0 {
		return "default"
	}
	var l []string
	for _, label := range labels {
		l = append(l, strconv.Itoa(label))
	}
	if isDefault {
		l = append(l, "default")
	}
	return "case " + strings.Join(l, ",")
}

func chainText(chain []api.Part) string {
	var l []string
	for _, part := range chain {
		s := part.ID + " " + strconv.Itoa(part.N)
		if part.Trunc {
			s += " t"
		}
		l = append(l, s)
	}
	return strings.Join(l, ",")
}
