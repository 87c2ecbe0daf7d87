package post

import (
	"slices"

	"intermede/api"
)

// The certainties.
const (
	whenSent = 1 + iota
	atOnce
	whenReached
	whenDone
)

// The marks that a call leaves.
const (
	handed = 1 + iota
	reached
	finished
	broke
	over
)

// asked asks for a certainty, and for marks that can be.
func asked(certainty int, marks []int) api.Errno {
	if !within(certainty, whenSent, whenDone) {
		return api.ErrRange
	}
	for i, m := range marks {
		before := marks[:i]
		switch {
		case !within(m, handed, over) || slices.Contains(before, m),
			(m == reached || m == finished) && !slices.Contains(before, m-1),
			slices.Contains(before, broke) && m != reached && m != finished:
			return api.ErrInvalid
		}
	}
	return api.OK
}

// Returns tells behind how many marks a caller goes on, and what it learns.
func Returns(certainty int, marks []int) (at int, state, done int, e api.Errno) {
	if e := asked(certainty, marks); e != api.OK {
		return 0, 0, 0, e
	}
	if certainty == atOnce {
		return 0, api.SResult, 0, api.OK
	}
	awaited := [...]int{whenSent: handed, whenReached: reached, whenDone: finished}[certainty]
	for i, m := range marks {
		switch {
		case m == awaited:
			return i + 1, api.SResult, 0, api.OK
		case m != broke && m != over:
		case slices.Contains(marks[:i], handed):
			return i + 1, api.SSystem, api.DoneMaybe, api.OK
		default:
			return i + 1, api.SSystem, api.DoneNo, api.OK
		}
	}
	return 0, 0, 0, api.ErrNone
}

// Final tells how far a call was done in truth.
func Final(certainty int, marks []int) (done int, e api.Errno) {
	if e := asked(certainty, marks); e != api.OK {
		return 0, e
	}
	switch {
	case slices.Contains(marks, finished):
		return api.DoneYes, api.OK
	case slices.Contains(marks, reached):
		return api.DoneMaybe, api.OK
	}
	return api.DoneNo, api.OK
}
