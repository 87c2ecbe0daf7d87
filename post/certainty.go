package post

import (
	"slices"

	"intermede/api"
)

// The certainties.
const (
	whenSent = 1 + iota
	atOnce
	whenReached
	whenDone
)

// The marks that a call leaves.
const (
	handed = 1 + iota
	reached
	finished
	broke
	over
)

func isCertainty(certainty int) bool { return within(certainty, whenSent, whenDone) }

// canBe reports whether marks can be those of a call.
func canBe(marks []int) bool {
	for i, m := range marks {
		before := marks[:i]
		switch {
		case !within(m, handed, over) || slices.Contains(before, m),
			(m == reached || m == finished) && !slices.Contains(before, m-1),
			slices.Contains(before, broke) && m != reached && m != finished:
			return false
		}
	}
	return true
}

// Returns tells behind how many marks a caller goes on, and what it learns. It alone asks for the certainty before the marks.
func Returns(certainty int, marks []int) (at int, state, done int, e api.Errno) {
	switch {
	case !isCertainty(certainty):
		return 0, 0, 0, api.ErrRange
	case !canBe(marks):
		return 0, 0, 0, api.ErrInvalid
	case certainty == atOnce:
		return 0, api.SResult, 0, api.OK
	}
	awaited := [...]int{whenSent: handed, whenReached: reached, whenDone: finished}[certainty]
	for i, m := range marks {
		switch {
		case m == awaited:
			return i + 1, api.SResult, 0, api.OK
		case m != broke && m != over:
		case slices.Contains(marks[:i], handed):
			return i + 1, api.SSystem, api.DoneMaybe, api.OK
		default:
			return i + 1, api.SSystem, api.DoneNo, api.OK
		}
	}
	return 0, 0, 0, api.ErrNone
}

// Final tells how far a call was done in truth.
func Final(certainty int, marks []int) (done int, e api.Errno) {
	switch {
	case !canBe(marks):
		return 0, api.ErrInvalid
	case !isCertainty(certainty):
		return 0, api.ErrRange
	case slices.Contains(marks, finished):
		return api.DoneYes, api.OK
	case slices.Contains(marks, reached):
		return api.DoneMaybe, api.OK
	}
	return api.DoneNo, api.OK
}
