package cdr

import (
	"strings"

	"intermede/api"
)

// Writer writes numbers and texts as bytes of a frame.
type Writer struct {
	frame
	all []byte
}

// NewWriter returns a writer whose first byte has the place at.
func NewWriter(big bool, at int) *Writer {
	return &Writer{frame: newFrame(big, at)}
}

// has reports whether there is room for n bytes behind the padding for a size.
func (w *Writer) has(size, n int) bool {
	return len(w.all)+padding(w.Place(), size)+n <= api.MaxBytes
}

func (w *Writer) pad(size int) {
	for range padding(w.Place(), size) {
		w.all = append(w.all, 0)
	}
}

// add writes a number for which there is room.
func (w *Writer) add(size, n int) {
	w.pad(size)
	for shift := range w.shifts(size) {
		w.all = append(w.all, byte(n>>shift))
	}
}

func (w *Writer) number(size, n int) api.Errno {
	switch {
	case w == nil:
		return api.ErrInvalid
	case !sizes()[size](n):
		return api.ErrRange
	case !w.has(size, size):
		return api.ErrLimit
	}
	w.add(size, n)
	return api.OK
}

// Octet writes a byte.
func (w *Writer) Octet(n int) api.Errno { return w.number(1, n) }

// Flag writes a byte that is 1 or 0.
func (w *Writer) Flag(b bool) api.Errno {
	if b {
		return w.number(1, 1)
	}
	return w.number(1, 0)
}

// Short writes a number of 2 bytes.
func (w *Writer) Short(n int) api.Errno { return w.number(2, n) }

// Long writes a number of 4 bytes.
func (w *Writer) Long(n int) api.Errno { return w.number(4, n) }

// Huge writes a number of 8 bytes.
func (w *Writer) Huge(n int) api.Errno { return w.number(8, n) }

// counted writes a number of bytes, and the bytes.
func (w *Writer) counted(s, end string) api.Errno {
	if !w.has(4, 4+len(s)+len(end)) {
		return api.ErrLimit
	}
	w.add(4, len(s)+len(end))
	w.all = append(w.all, s...)
	w.all = append(w.all, end...)
	return api.OK
}

// Text writes a text with its length and a zero byte behind it.
func (w *Writer) Text(s string) api.Errno {
	if w == nil {
		return api.ErrInvalid
	}
	if strings.IndexByte(s, 0) >= 0 {
		return api.ErrData
	}
	return w.counted(s, "\x00")
}

// Bytes writes bytes with their number.
func (w *Writer) Bytes(s string) api.Errno {
	if w == nil {
		return api.ErrInvalid
	}
	return w.counted(s, "")
}

// Raw writes bytes as they are.
func (w *Writer) Raw(s string) api.Errno {
	if w == nil {
		return api.ErrInvalid
	}
	if !w.has(1, len(s)) {
		return api.ErrLimit
	}
	w.all = append(w.all, s...)
	return api.OK
}

// Align writes the padding for a size.
func (w *Writer) Align(size int) api.Errno {
	switch {
	case w == nil:
		return api.ErrInvalid
	case !isSize(size):
		return api.ErrRange
	case !w.has(size, 0):
		return api.ErrLimit
	}
	w.pad(size)
	return api.OK
}

// Put writes a number of 4 bytes over bytes that stand at a place already.
func (w *Writer) Put(place, n int) api.Errno {
	if w == nil {
		return api.ErrInvalid
	}
	if place < w.at || place > w.Place()-4 || place%4 != 0 || !sizes()[4](n) {
		return api.ErrRange
	}
	i := place - w.at
	for shift := range w.shifts(4) {
		w.all[i] = byte(n >> shift)
		i++
	}
	return api.OK
}

// Place returns the place of the next byte.
func (w *Writer) Place() int {
	if w == nil {
		return 0
	}
	return w.at + len(w.all)
}

// All returns the bytes.
func (w *Writer) All() string {
	if w == nil {
		return ""
	}
	return string(w.all)
}
