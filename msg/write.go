package msg

import (
	"intermede/api"
	"intermede/cdr"
)

// full is what a writer panics with: there is no room for more bytes.
type full struct{}

// writer writes a message.
type writer struct{ *cdr.Writer }

func (w writer) done(e api.Errno) {
	if e != api.OK {
		panic(full{})
	}
}

func (w writer) contexts(m *api.Message) {
	w.done(w.Long(len(m.Contexts)))
	for _, c := range m.Contexts {
		w.done(w.Long(c.Tag))
		w.done(w.Bytes(c.Text))
	}
}

func (w writer) request(m *api.Message) {
	w.done(w.Long(m.Number))
	w.done(w.Flag(m.Answer))
	w.done(w.Bytes(m.Key))
	w.done(w.Text(m.Op))
	w.contexts(m)
}

func (w writer) reply(m *api.Message) {
	w.located(m)
	w.contexts(m)
}

func (w writer) number(m *api.Message) { w.done(w.Long(m.Number)) }

func (w writer) locate(m *api.Message) {
	w.done(w.Long(m.Number))
	w.done(w.Bytes(m.Key))
}

func (w writer) located(m *api.Message) {
	w.done(w.Long(m.Number))
	w.done(w.Octet(m.State))
}

func (w writer) nothing(*api.Message) {}

// writers write what stands before the body, by kinds.
func writers() [8]func(writer, *api.Message) {
	return [8]func(writer, *api.Message){
		api.MRequest: writer.request, api.MReply: writer.reply, api.MCancel: writer.number, api.MLocate: writer.locate, api.MLocated: writer.located, api.MClose: writer.nothing, api.MError: writer.nothing, api.MFragment: writer.number,
	}
}

const beginning = "IMED\x01"

// head writes a valid message up to its body.
func head(m *api.Message) writer {
	w := writer{cdr.NewWriter(m.Big, 0)}
	flags := 0
	if m.Big {
		flags |= 1
	}
	if m.More {
		flags |= 2
	}
	w.done(w.Raw(beginning))
	w.done(w.Octet(flags))
	w.done(w.Octet(m.Kind))
	w.done(w.Octet(0))
	w.done(w.Long(0))
	writers()[m.Kind](w, m)
	return w
}

// Encode writes a message.
func Encode(m api.Message) (s string, e api.Errno) {
	if !Valid(m) {
		return "", api.ErrInvalid
	}
	defer func() {
		if p := recover(); p != nil {
			s, e = "", api.ErrLimit
		}
	}()
	w := head(&m)
	if m.Body != "" {
		w.done(w.Align(8))
		w.done(w.Raw(m.Body))
	}
	w.done(w.Put(8, w.Place()-headLength))
	return w.All(), api.OK
}

// Place returns the place at which the body of a message stands or would stand.
func Place(m api.Message) (int, api.Errno) {
	if !Valid(m) {
		return 0, api.ErrInvalid
	}
	w := head(&m)
	w.done(w.Align(8))
	return w.Place(), api.OK
}
