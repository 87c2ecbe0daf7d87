package ref

import (
	"strconv"
	"strings"

	"intermede/api"
	"intermede/cdr"
)

// The beginnings of texts of references.
const (
	bytesBegin   = "REF:"
	addressBegin = "at:"
)

// defaultPort is the port of an address that has none.
const defaultPort = 1234

// form is how a text of a reference is read behind its beginning.
type form struct {
	read func(string) (api.Ref, bool)
}

func forms() map[string]form {
	return map[string]form{bytesBegin: {ofBytes}, addressBegin: {ofAddress}}
}

// read reads a text with a beginning.
func read(text, begin string) (api.Ref, api.Errno) {
	if len(text) > api.MaxText {
		return api.Ref{}, api.ErrLong
	}
	rest, ok := strings.CutPrefix(text, begin)
	if !ok {
		return api.Ref{}, api.ErrSyntax
	}
	r, ok := forms()[begin].read(rest)
	if !ok || !Valid(r) {
		return api.Ref{}, api.ErrSyntax
	}
	return r, api.OK
}

const digits = "0123456789abcdef"

// Format writes a reference as the digits of its bytes.
func Format(r api.Ref) string {
	if !Valid(r) {
		return ""
	}
	w := cdr.NewWriter(true, 0)
	w.Flag(true)
	w.Text(r.ID)
	w.Long(len(r.Profiles))
	for _, p := range r.Profiles {
		w.Text(p.Host)
		w.Long(p.Port)
		w.Bytes(p.Key)
		w.Octet(p.Minor)
		w.Long(len(p.Parts))
		for _, part := range p.Parts {
			w.Long(part.Tag)
			w.Bytes(part.Text)
		}
	}
	var b strings.Builder
	b.WriteString(bytesBegin)
	for _, c := range []byte(w.All()) {
		b.WriteByte(digits[c>>4])
		b.WriteByte(digits[c&15])
	}
	return b.String()
}

// Parse reads a reference of digits.
func Parse(text string) (api.Ref, api.Errno) { return read(text, bytesBegin) }

// unhex reads digits, great ones or small ones.
func unhex(s string) (string, bool) {
	b := make([]byte, len(s)/2)
	for i := range len(s) {
		n := strings.IndexByte(digits, s[i])
		if s[i] >= 'A' && s[i] <= 'F' {
			n = int(s[i]-'A') + 10
		}
		if n < 0 || len(s)%2 != 0 {
			return "", false
		}
		b[i/2] = b[i/2]<<4 | byte(n)
	}
	return string(b), true
}

// reader reads the bytes of a reference; behind an error all that it reads is nothing.
type reader struct {
	*cdr.Reader
	wrong bool
}

func kept[T any](r *reader, x T, e api.Errno) T {
	r.wrong = r.wrong || e != api.OK
	return x
}

func (r *reader) text() string {
	s, e := r.Text()
	return kept(r, s, e)
}

func (r *reader) bytes() string {
	s, e := r.Bytes()
	return kept(r, s, e)
}

func (r *reader) long() int {
	n, e := r.Long()
	return kept(r, n, e)
}

// count takes a number of things.
func (r *reader) count() int {
	n := r.long()
	r.wrong = r.wrong || n < 0
	return n
}

func ofBytes(s string) (api.Ref, bool) {
	s, ok := unhex(s)
	if !ok || s == "" || s[0] > 1 {
		return api.Ref{}, false
	}
	r := &reader{Reader: cdr.NewReader(s, s[0] == 1, 0)}
	r.Flag()
	out := api.Ref{ID: r.text()}
	for n := r.count(); n > 0 && !r.wrong; n-- {
		out.Profiles = append(out.Profiles, r.profile())
	}
	return out, !r.wrong && r.Left() == 0
}

func (r *reader) profile() api.Profile {
	var p api.Profile
	p.Host = r.text()
	p.Port = r.long()
	p.Key = r.bytes()
	minor, e := r.Octet()
	p.Minor = kept(r, minor, e)
	for n := r.count(); n > 0 && !r.wrong; n-- {
		tag := r.long()
		p.Parts = append(p.Parts, api.Context{Tag: tag, Text: r.bytes()})
	}
	return p
}

// plain reports whether a byte of a key stands for itself in an address.
func plain(c byte) bool {
	return c >= 'a' && c <= 'z' || c >= 'A' && c <= 'Z' || c >= '0' && c <= '9' || strings.IndexByte("-._/", c) >= 0
}

// Address writes a reference for people.
func Address(r api.Ref) (string, api.Errno) {
	if !Valid(r) {
		return "", api.ErrInvalid
	}
	if Nil(r) {
		return "", api.ErrKind
	}
	var ways []string
	for _, p := range r.Profiles {
		if p.Key != r.Profiles[0].Key || len(p.Parts) > 0 {
			return "", api.ErrKind
		}
		ways = append(ways, p.Host+":"+strconv.Itoa(p.Port)+"."+strconv.Itoa(p.Minor))
	}
	return addressBegin + strings.Join(ways, ",") + "/" + escaped(r.Profiles[0].Key) + "#" + r.ID, api.OK
}

func escaped(key string) string {
	var b strings.Builder
	for _, c := range []byte(key) {
		if plain(c) {
			b.WriteByte(c)
		} else {
			b.WriteString("%" + strings.ToUpper(string(digits[c>>4])+string(digits[c&15])))
		}
	}
	return b.String()
}

// unescaped reads a key as it is written: nothing but what needs it is written with digits.
func unescaped(s string) (string, bool) {
	var b []byte
bytes:
	for i := 0; i < len(s); i++ {
		switch {
		case plain(s[i]):
			b = append(b, s[i])
			continue bytes
		case s[i] != '%' || i+2 >= len(s):
			return "", false
		}
		c, ok := unhex(s[i+1 : i+3])
		if !ok || plain(c[0]) || strings.ToUpper(s[i+1:i+3]) != s[i+1:i+3] {
			return "", false
		}
		b = append(b, c[0])
		i += 2
	}
	return string(b), true
}

// OfAddress reads what Address writes; minor versions and ports may lack.
func OfAddress(text string) (api.Ref, api.Errno) { return read(text, addressBegin) }

func ofAddress(s string) (api.Ref, bool) {
	s, id, ok := strings.Cut(s, "#")
	ways, key, ok2 := strings.Cut(s, "/")
	key, ok3 := unescaped(key)
	if !ok || !ok2 || !ok3 {
		return api.Ref{}, false
	}
	out := api.Ref{ID: id}
	for _, way := range strings.Split(ways, ",") {
		p := api.Profile{Port: defaultPort, Key: key}
		host, rest, more := strings.Cut(way, ":")
		p.Host = host
		if more {
			port, minor, more := strings.Cut(rest, ".")
			p.Port, ok = number(port, maxPort)
			if ok && more {
				p.Minor, ok = number(minor, maxMinor)
			}
			if !ok {
				return api.Ref{}, false
			}
		}
		out.Profiles = append(out.Profiles, p)
	}
	return out, true
}
