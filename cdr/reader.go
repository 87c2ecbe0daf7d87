package cdr

import (
	"strings"

	"intermede/api"
)

// Reader reads numbers and texts out of the bytes of a frame.
type Reader struct {
	frame
	s     string
	next  int // index of the next byte; behind an error that of the wrong one
	wrong bool
}

// NewReader returns a reader of bytes, the first of which has the place at.
func NewReader(s string, big bool, at int) *Reader {
	return &Reader{frame: newFrame(big, at), s: s}
}

// stop keeps the index of the first wrong byte.
func (r *Reader) stop(index int) api.Errno {
	r.next, r.wrong = index, true
	return api.ErrData
}

// ready tells what each method asks before all else.
func (r *Reader) ready() api.Errno {
	switch {
	case r == nil:
		return api.ErrInvalid
	case r.wrong:
		return api.ErrData
	}
	return api.OK
}

// zeros asks that the bytes from an index on are zeros; stop is told the first one that is not.
func zeros(s string, from, n int, stop func(int) api.Errno) api.Errno {
	for i := from; i < from+n; i++ {
		if i == len(s) || s[i] != 0 {
			return stop(i)
		}
	}
	return api.OK
}

// Align skips the padding for a size.
func (r *Reader) Align(size int) api.Errno {
	if e := r.ready(); e != api.OK {
		return e
	}
	if !isSize(size) {
		return api.ErrRange
	}
	n := padding(r.Place(), size)
	if e := zeros(r.s, r.next, n, r.stop); e != api.OK {
		return e
	}
	r.next += n
	return api.OK
}

func (r *Reader) number(size int) (uint64, api.Errno) {
	if e := r.Align(size); e != api.OK {
		return 0, e
	}
	if len(r.s)-r.next < size {
		return 0, r.stop(len(r.s))
	}
	n := uint64(0)
	for shift := range r.shifts(size) {
		n |= uint64(r.s[r.next]) << shift
		r.next++
	}
	return n, api.OK
}

// Octet reads a byte.
func (r *Reader) Octet() (int, api.Errno) {
	n, e := r.number(1)
	return int(n), e
}

// Flag reads a byte that is 0 or 1.
func (r *Reader) Flag() (bool, api.Errno) {
	n, e := r.number(1)
	if e == api.OK && n > 1 {
		return false, r.stop(r.next - 1)
	}
	return n == 1, e
}

// Short reads a number of 2 bytes.
func (r *Reader) Short() (int, api.Errno) {
	n, e := r.number(2)
	return int(int16(n)), e
}

// Long reads a number of 4 bytes.
func (r *Reader) Long() (int, api.Errno) {
	n, e := r.number(4)
	return int(int32(n)), e
}

// Huge reads a number of 8 bytes.
func (r *Reader) Huge() (int, api.Errno) {
	n, e := r.number(8)
	return int(n), e
}

// counted reads a number of bytes, at least so many, and then these.
func (r *Reader) counted(least int) (string, api.Errno) {
	n, e := r.Long()
	if e != api.OK {
		return "", e
	}
	if n < least || n > len(r.s)-r.next {
		return "", r.stop(r.next - 4)
	}
	r.next += n
	return r.s[r.next-n : r.next], api.OK
}

// Text reads a text with its length and a zero byte behind it.
func (r *Reader) Text() (string, api.Errno) {
	s, e := r.counted(1)
	if e != api.OK {
		return "", e
	}
	// The last byte is asked behind all others: it is wrong itself if there is no zero byte at all.
	zero := strings.IndexByte(s, 0)
	if zero < 0 {
		return "", r.stop(r.next - 1)
	}
	if zero < len(s)-1 {
		return "", r.stop(r.next - len(s) + zero)
	}
	return s[:zero], api.OK
}

// Bytes reads bytes with their number.
func (r *Reader) Bytes() (string, api.Errno) {
	return r.counted(0)
}

// Raw takes n bytes as they are.
func (r *Reader) Raw(n int) (string, api.Errno) {
	if e := r.ready(); e != api.OK {
		return "", e
	}
	if n < 0 {
		return "", api.ErrRange
	}
	if n > len(r.s)-r.next {
		return "", r.stop(len(r.s))
	}
	r.next += n
	return r.s[r.next-n : r.next], api.OK
}

// Place returns the place of the next byte.
func (r *Reader) Place() int {
	if r == nil {
		return 0
	}
	return r.at + r.next
}

// Left returns how many bytes are left.
func (r *Reader) Left() int {
	if r == nil {
		return 0
	}
	return len(r.s) - r.next
}

// Bad returns the place of the first wrong byte, or -1 if nothing was wrong.
func (r *Reader) Bad() int {
	switch {
	case r == nil:
		return 0
	case r.wrong:
		return r.Place()
	}
	return -1
}
