// Package cdr writes numbers and texts as bytes, in both byte orders, each at its place, and reads them.
package cdr

import (
	"iter"
	"math"

	"intermede/api"
)

// frame is what a writer and a reader both have: the order of the bytes, and the place of the first one.
type frame struct {
	big bool
	at  int
}

func newFrame(big bool, at int) frame {
	if at < 0 || at > 7 {
		at = 0
	}
	return frame{big: big, at: at}
}

// shifts goes through the bytes of a number as they stand in the frame: it tells by how many bits each is shifted.
func (f frame) shifts(size int) iter.Seq[int] {
	return func(yield func(int) bool) {
		for i := range size {
			if f.big {
				i = size - 1 - i
			}
			if !yield(8 * i) {
				return
			}
		}
	}
}

// sizes tells, at the index of each size that a number may have, whether a number fits into so many bytes.
func sizes() [9]func(n int) bool {
	return [9]func(n int) bool{
		1: func(n int) bool { return n >= 0 && n <= math.MaxUint8 },
		2: func(n int) bool { return n >= math.MinInt16 && n <= math.MaxInt16 },
		4: func(n int) bool { return n >= math.MinInt32 && n <= math.MaxInt32 },
		8: func(n int) bool { return true },
	}
}

func isSize(n int) bool {
	return n >= 0 && n <= 8 && sizes()[n] != nil
}

// padding is Pad for what is known to be right.
func padding(place, size int) int {
	return (size - place%size) % size
}

// Pad returns how many bytes of padding there are at a place for a size.
func Pad(place, size int) (int, api.Errno) {
	if place < 0 || !isSize(size) {
		return 0, api.ErrRange
	}
	return padding(place, size), api.OK
}

// Swap turns each piece of size bytes around.
func Swap(s string, size int) (string, api.Errno) {
	if !isSize(size) {
		return "", api.ErrRange
	}
	if len(s)%size != 0 {
		return "", api.ErrSize
	}
	turned := make([]byte, len(s))
	for i := range len(s) {
		turned[i-i%size+size-1-i%size] = s[i]
	}
	return string(turned), api.OK
}
