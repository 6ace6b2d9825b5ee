package relex

import (
	"iter"

	"frisket/api"
	"frisket/scan"
)

// patience is how many times as many bytes as the text has are looked at for single tokens, at most: more would take longer than to scan it whole.
const patience = 64

// anew is the tokens of an edited text from a place on, up to where the old ones go on; and which old one is the first of these. (The edit ends at a place of the new text, and moved by some bytes what stands behind it.)
func (t *Tape) anew(text string, at, end, by int) ([]scan.Token, int) {
	if old, ok := t.meets(at, end, by); ok {
		return nil, old
	}
	var fresh []scan.Token
	for k := range t.tokensFrom(text, at) {
		fresh = append(fresh, k)
		if old, ok := t.meets(k.To, end, by); ok {
			return fresh, old
		}
	}
	return fresh, len(t.tokens)
}

// meets tells which old token begins, moved, at a place behind the edit, and whether one does.
func (t *Tape) meets(at, end, by int) (int, bool) {
	if at < end {
		return 0, false
	}
	return t.search(at - by)
}

// tokensFrom is the tokens of a text from a place on. Few of them are wanted most times, so they are scanned one by one; but where each looks far, all go over the same bytes: when patience is at its end, those that are left are scanned together.
func (t *Tape) tokensFrom(text string, at int) iter.Seq[scan.Token] {
	return func(yield func(scan.Token) bool) {
		place := at
		for looked := 0; place < len(text) && looked <= patience*len(text); {
			k, err := t.Next(text, place)
			if err != api.OK || !yield(k) {
				return
			}
			looked += k.Look - k.From
			place = k.To
		}
		rest, _ := t.Scan(text[place:])
		for _, k := range rest {
			if !yield(moved(k, place)) {
				return
			}
		}
	}
}
