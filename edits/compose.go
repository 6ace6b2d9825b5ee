package edits

import (
	"strings"

	"frisket/api"
)

// run is bytes of an edited text that come of one place: of the text ahead of the edits, or of what an edit put.
type run struct {
	text string
	kept bool
	from int // where it stood ahead of the edits, if it is kept
}

// end is where a kept run ended ahead of the edits.
func (r run) end() int {
	return r.from + len(r.text)
}

// runsOf is what edits make of a text, as runs.
func runsOf(s string, l []api.Edit) []run {
	runs := make([]run, 0, 2*len(l)+1)
	at := 0
	for _, e := range l {
		runs = append(runs, run{text: s[at:e.From], kept: true, from: at}, run{text: e.With})
		at = e.To
	}
	return append(runs, run{text: s[at:], kept: true, from: at})
}

// reader goes through runs, from the first byte on.
type reader struct {
	rest []run
	off  int // how many bytes of the first run are read
}

// read hands the next n bytes on, as runs that aren't empty.
func (r *reader) read(n int, hand func(run)) {
	for n > 0 {
		x := r.rest[0]
		k := min(n, len(x.text)-r.off)
		if k > 0 {
			hand(run{text: x.text[r.off : r.off+k], kept: x.kept, from: x.from + r.off})
		}
		n -= k
		r.off += k
		if r.off == len(x.text) {
			r.rest, r.off = r.rest[1:], 0
		}
	}
}

// Compose is edits that do what two lists do, one behind the other.
func Compose(s string, a, b []api.Edit) ([]api.Edit, api.Errno) {
	if !Right(len(s), a...) {
		return nil, api.ErrRange
	}
	size := Move(len(s), a...)
	if !Right(size, b...) {
		return nil, api.ErrRange
	}
	var out []api.Edit
	var with strings.Builder
	kept := 0 // where the last kept run ended
	putDown := func(to int) {
		out = appendLean(out, s, api.Edit{From: kept, To: to, With: with.String()})
		with.Reset()
	}
	gather := func(x run) {
		if !x.kept {
			with.WriteString(x.text)
			return
		}
		putDown(x.from)
		kept = x.end()
	}
	r := reader{rest: runsOf(s, a)}
	at := 0
	for _, e := range b {
		r.read(e.From-at, gather)
		r.read(e.To-e.From, func(run) {})
		with.WriteString(e.With)
		at = e.To
	}
	r.read(size-at, gather)
	putDown(len(s))
	return out, api.OK
}
