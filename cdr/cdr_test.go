package cdr

import (
	"math"
	"math/rand/v2"
	"strings"
	"testing"

	"intermede/api"
)

func TestWriterPlaces(t *testing.T) {
	for _, c := range []struct {
		at   int
		want string
	}{{0, "\x01\x00\x00\x02"}, {1, "\x01\x00\x02"}, {3, "\x01\x00\x02"}, {2, "\x01\x00\x00\x02"}, {8, "\x01\x00\x00\x02"}, {-1, "\x01\x00\x00\x02"}} {
		w := NewWriter(true, c.at)
		w.Octet(1)
		w.Short(2)
		if w.All() != c.want {
			t.Errorf("at %d: %q", c.at, w.All())
		}
		if at := w.Place() - len(w.All()); at != c.at && at != 0 {
			t.Errorf("at %d: place %d", c.at, w.Place())
		}
	}
}

func TestWriterErrors(t *testing.T) {
	w := NewWriter(true, 0)
	w.Octet(7)
	for name, e := range map[string]api.Errno{
		"octet low": w.Octet(-1), "octet": w.Octet(256), "short": w.Short(math.MaxInt16 + 1), "short low": w.Short(math.MinInt16 - 1),
		"long": w.Long(math.MaxInt32 + 1), "long low": w.Long(math.MinInt32 - 1), "align 0": w.Align(0), "align 9": w.Align(9), "align -4": w.Align(-4),
		"put": w.Put(0, 1), "put far": w.Put(math.MaxInt, 1), "put low": w.Put(math.MinInt, 1),
	} {
		if e != api.ErrRange {
			t.Error(name, e)
		}
	}
	if w.Text("a\x00") != api.ErrData || w.Text("\x00"+strings.Repeat("a", api.MaxBytes)) != api.ErrData || w.Text(strings.Repeat("a", api.MaxBytes)) != api.ErrLimit {
		t.Error("Text")
	}
	if w.All() != "\x07" {
		t.Errorf("something was written: %q", w.All())
	}
	if w.Raw(strings.Repeat("x", api.MaxBytes-2)) != api.OK || w.Short(1) != api.ErrLimit || w.Align(4) != api.OK || w.Octet(1) != api.ErrLimit || w.Raw("") != api.OK || w.Bytes("") != api.ErrLimit || w.Flag(true) != api.ErrLimit {
		t.Error("limit")
	}
	if w.Place() != api.MaxBytes {
		t.Error(w.Place())
	}
	v := NewWriter(true, 5)
	if v.Raw(strings.Repeat("x", api.MaxBytes)) != api.OK || v.Place() != api.MaxBytes+5 || v.Align(8) != api.ErrLimit {
		t.Error("the limit counts bytes, not places")
	}
}

func TestPut(t *testing.T) {
	w := NewWriter(false, 2)
	w.Raw("abcdefghij")
	if w.Put(4, 1) != api.OK || w.All() != "ab\x01\x00\x00\x00ghij" || w.Put(8, -1) != api.OK || w.All() != "ab\x01\x00\x00\x00\xff\xff\xff\xff" {
		t.Errorf("%q", w.All())
	}
	if w.Put(0, 1) != api.ErrRange || w.Put(9, 1) != api.ErrRange || w.Put(12, 1) != api.ErrRange || w.Put(6, 1) != api.ErrRange || w.Put(4, math.MaxInt32+1) != api.ErrRange {
		t.Error("Put")
	}
}

func TestNil(t *testing.T) {
	var w *Writer
	var r *Reader
	for i, e := range []api.Errno{w.Octet(1), w.Flag(true), w.Short(1), w.Long(1), w.Huge(1), w.Text("\x00"), w.Bytes(""), w.Raw(""), w.Align(3), w.Put(1, 1), r.Align(3)} {
		if e != api.ErrInvalid {
			t.Error(i, e)
		}
	}
	_, e1 := r.Octet()
	_, e2 := r.Flag()
	_, e3 := r.Short()
	_, e4 := r.Huge()
	_, e5 := r.Text()
	_, e6 := r.Bytes()
	_, e7 := r.Raw(-1)
	for i, e := range []api.Errno{e1, e2, e3, e4, e5, e6, e7} {
		if e != api.ErrInvalid {
			t.Error(i, e)
		}
	}
	if w.Place() != 0 || w.All() != "" || r.Place() != 0 || r.Left() != 0 || r.Bad() != 0 {
		t.Error("nil")
	}
}

func TestReaderWrong(t *testing.T) {
	long := func(r *Reader) api.Errno { _, e := r.Long(); return e }
	text := func(r *Reader) api.Errno { _, e := r.Text(); return e }
	list := func(r *Reader) api.Errno { _, e := r.Bytes(); return e }
	flag := func(r *Reader) api.Errno { _, e := r.Flag(); return e }
	for _, c := range []struct {
		s    string
		at   int
		read func(*Reader) api.Errno
		bad  int
	}{
		{"", 0, long, 0}, {"", 3, long, 3}, {"\x00\x00\x00", 0, long, 3}, {"\x00\x00\x00", 3, long, 6}, {"\x01\x00\x00\x00\x00", 3, long, 3}, {"\x00\x00\x01", 1, long, 3},
		{"\x00\x00\x00\x00", 0, text, 0}, {"\xff\xff\xff\xff", 0, text, 0}, {"\x00\x00\x00\x02a", 0, text, 0}, {"\x00\x00\x00\x02ab", 0, text, 5}, {"\x00\x00\x00\x03\x00bc", 0, text, 4}, {"\x00\x00\x00\x03a\x00c", 4, text, 9},
		{"\xff\xff\xff\xff", 0, list, 0}, {"\x00\x00\x00\x01", 4, list, 4}, {"\x02", 7, flag, 7}, {"", 7, flag, 7},
	} {
		r := NewReader(c.s, true, c.at)
		if e := c.read(r); e != api.ErrData || r.Bad() != c.bad || r.Place() != c.bad || r.Left() != c.at+len(c.s)-c.bad {
			t.Errorf("%q at %d: %d bad %d place %d left %d", c.s, c.at, e, r.Bad(), r.Place(), r.Left())
		}
		if _, e := r.Raw(-1); e != api.ErrData || r.Align(3) != api.ErrData || r.Bad() != c.bad {
			t.Errorf("%q: behind an error", c.s)
		}
	}
	r := NewReader("abc", true, 0)
	if _, e := r.Raw(4); e != api.ErrData || r.Bad() != 3 {
		t.Error("Raw", r.Bad())
	}
	r = NewReader("\x00a", true, 0)
	if r.Align(0) != api.ErrRange || r.Bad() != -1 || r.Align(8) != api.OK {
		t.Error("Align")
	}
	if s, e := r.Raw(2); s != "\x00a" || e != api.OK || r.Bad() != -1 {
		t.Error("Raw")
	}
	if new(Reader).Bad() != -1 {
		t.Error("a new reader is right")
	}
}

func TestPadSwap(t *testing.T) {
	for place := range 20 {
		for _, size := range []int{1, 2, 4, 8} {
			if n, e := Pad(place, size); e != api.OK || n < 0 || n >= size || (place+n)%size != 0 {
				t.Error(place, size, n)
			}
		}
	}
	for _, c := range [][2]int{{-1, 2}, {0, 0}, {0, 3}, {0, 16}, {0, -8}} {
		if _, e := Pad(c[0], c[1]); e != api.ErrRange {
			t.Error(c, e)
		}
	}
	if s, e := Swap("abcdefgh", 4); s != "dcbahgfe" || e != api.OK {
		t.Error(s)
	}
	if s, e := Swap("abcdefgh", 8); s != "hgfedcba" || e != api.OK {
		t.Error(s)
	}
	if s, e := Swap("abc", 1); s != "abc" || e != api.OK {
		t.Error(s)
	}
	if _, e := Swap("abc", 3); e != api.ErrRange {
		t.Error(e)
	}
	if _, e := Swap("abc", 2); e != api.ErrSize {
		t.Error(e)
	}
}

type act struct {
	kind, n int
	s       string
}

func acts(r *rand.Rand) []act {
	var l []act
	for range r.IntN(20) {
		a := act{kind: r.IntN(9), s: strings.Repeat("x", r.IntN(5))}
		switch a.kind {
		case 0:
			a.n = r.IntN(256)
		case 1:
			a.n = r.IntN(2)
		case 2:
			a.n = int(int16(r.Uint64()))
		case 3:
			a.n = int(int32(r.Uint64()))
		case 4:
			a.n = int(r.Uint64())
		case 8:
			a.n = 1 << r.IntN(4)
		}
		l = append(l, a)
	}
	return l
}

func write(w *Writer, a act) api.Errno {
	switch a.kind {
	case 0:
		return w.Octet(a.n)
	case 1:
		return w.Flag(a.n == 1)
	case 2:
		return w.Short(a.n)
	case 3:
		return w.Long(a.n)
	case 4:
		return w.Huge(a.n)
	case 5:
		return w.Text(a.s)
	case 6:
		return w.Bytes(a.s + "\x00")
	case 7:
		return w.Raw(a.s)
	}
	return w.Align(a.n)
}

func back(r *Reader, a act) bool {
	n, s, e := a.n, a.s, api.OK
	switch a.kind {
	case 0:
		n, e = r.Octet()
	case 1:
		var b bool
		b, e = r.Flag()
		if n = 0; b {
			n = 1
		}
	case 2:
		n, e = r.Short()
	case 3:
		n, e = r.Long()
	case 4:
		n, e = r.Huge()
	case 5:
		s, e = r.Text()
	case 6:
		s, e = r.Bytes()
		s = strings.TrimSuffix(s, "\x00")
	case 7:
		s, e = r.Raw(len(a.s))
	case 8:
		e = r.Align(a.n)
	}
	return n == a.n && s == a.s && e == api.OK
}

func TestBack(t *testing.T) {
	rnd := rand.New(rand.NewPCG(1, 2))
	for range 500 {
		l, at := acts(rnd), rnd.IntN(8)
		big, little := NewWriter(true, at), NewWriter(false, at)
		for _, a := range l {
			if write(big, a) != api.OK || write(little, a) != api.OK {
				t.Fatal(a)
			}
			if big.Place() != at+len(big.All()) || little.Place() != big.Place() {
				t.Fatal("places", big.Place(), little.Place())
			}
		}
		for _, w := range []*Writer{big, little} {
			r := NewReader(w.All(), w == big, at)
			for _, a := range l {
				if !back(r, a) {
					t.Fatal(a)
				}
			}
			if r.Left() != 0 || r.Bad() != -1 {
				t.Fatal("left", r.Left())
			}
		}
	}
}

func TestOrders(t *testing.T) {
	for _, a := range []act{{kind: 2, n: -2}, {kind: 3, n: 70000}, {kind: 4, n: math.MinInt}} {
		big, little := NewWriter(true, 0), NewWriter(false, 0)
		write(big, a)
		write(little, a)
		if s, _ := Swap(big.All(), len(big.All())); s != little.All() {
			t.Errorf("%q %q", big.All(), little.All())
		}
	}
}

func TestFirst(t *testing.T) {
	rnd := rand.New(rand.NewPCG(3, 4))
	for range 2000 {
		l, at := acts(rnd), rnd.IntN(8)
		w := NewWriter(true, at)
		for _, a := range l {
			if a.kind < 5 || a.kind > 6 {
				write(w, a)
			}
		}
		s := []byte(w.All())
		if len(s) == 0 {
			continue
		}
		s[rnd.IntN(len(s))] ^= byte(1 << rnd.IntN(8))
		wrong := func(s string) int {
			r := NewReader(s, true, at)
			for _, a := range l {
				if a.kind < 5 || a.kind > 6 {
					back(r, a)
				}
			}
			return r.Bad()
		}
		bad := wrong(string(s))
		for i := bad - at + 1; bad >= 0 && i < len(s); i++ {
			s[i] = byte(rnd.Uint32())
		}
		if again := wrong(string(s)); bad >= 0 && again != bad {
			t.Fatal(bad, again)
		}
	}
}
