// Package edits is layer 1: lists of edits.
package edits

import (
	"strings"

	"frisket/api"
)

// Right tells whether edits are right of so many bytes.
func Right(n int, l ...api.Edit) bool {
	at := 0
	for _, e := range l {
		if e.From < at || e.To < e.From || e.To > n {
			return false
		}
		at = e.To
	}
	return true
}

// Apply is what a text becomes.
func Apply(s string, l ...api.Edit) (string, api.Errno) {
	if !Right(len(s), l...) {
		return "", api.ErrRange
	}
	var made strings.Builder
	made.Grow(Move(len(s), l...))
	at := 0
	for _, e := range l {
		made.WriteString(s[at:e.From])
		made.WriteString(e.With)
		at = e.To
	}
	made.WriteString(s[at:])
	return made.String(), api.OK
}

// Turn is the edits that undo these.
func Turn(s string, l ...api.Edit) ([]api.Edit, api.Errno) {
	if !Right(len(s), l...) {
		return nil, api.ErrRange
	}
	back := make([]api.Edit, 0, len(l))
	moved := 0
	for _, e := range l {
		from := e.From + moved
		back = append(back, api.Edit{From: from, To: from + len(e.With), With: strings.Clone(s[e.From:e.To])})
		moved += growth(e)
	}
	return back, api.OK
}

// Lean is edits, each of them lean.
func Lean(s string, l ...api.Edit) ([]api.Edit, api.Errno) {
	if !Right(len(s), l...) {
		return nil, api.ErrRange
	}
	var left []api.Edit
	for _, e := range l {
		left = appendLean(left, s, e)
	}
	return left, api.OK
}

// Between is the edit that makes one text of another one.
func Between(a, b string) []api.Edit {
	return appendLean(nil, a, api.Edit{From: 0, To: len(a), With: b})
}

// Move is where a place stands behind edits.
func Move(at int, l ...api.Edit) int {
	begin, moved := at, 0
	for _, e := range l {
		switch {
		case e.To <= at:
			moved += growth(e)
		case e.From < begin: // the place is within this edit
			begin = e.From
		}
	}
	return begin + moved
}

// Cost is how many bytes edits take away and put.
func Cost(l ...api.Edit) int {
	n := 0
	for _, e := range l {
		n += taken(e) + len(e.With)
	}
	return n
}

// taken is how many bytes an edit takes away: none, if it ends ahead of its beginning.
func taken(e api.Edit) int {
	return max(0, e.To-e.From)
}

// growth is by how much an edit makes a text longer.
func growth(e api.Edit) int {
	return len(e.With) - taken(e)
}
