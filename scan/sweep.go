package scan

import "iter"

// apart is how far milestones are apart: near enough that few bytes are looked at between them, far enough that few are kept.
const apart = 256

// milestone is a place at which the automaton came by in a state.
type milestone struct {
	state, place int
}

// sweep goes through a text. Tokens may look far behind their ends, each of them as far as the text goes; so it keeps what it found out behind milestones, lest it go there once for each token.
type sweep struct {
	*Scanner
	text  string
	looks map[milestone]int // of those behind which no state accepts: up to where one looks from there
}

// newSweep is a sweep that has looked at nothing.
func newSweep(s *Scanner, text string) *sweep {
	return &sweep{Scanner: s, text: text, looks: map[milestone]int{}}
}

// tokens is the tokens of the text, one behind the other.
func (w *sweep) tokens() iter.Seq[Token] {
	return func(yield func(Token) bool) {
		for at := 0; at < len(w.text); {
			t := w.token(at)
			if !yield(t) {
				return
			}
			at = t.To
		}
	}
}

// token is the token that begins at a place ahead of the text's end. (It has a byte at least: the first state accepts nothing.)
func (w *sweep) token(from int) Token {
	t := Token{Class: none, From: from, To: from + 1}
	var passed []milestone // from the token's end on, as far as it is known
	for state, place := 0, from; t.Look == 0; place++ {
		if class := w.Accept(state); class != none {
			t.Class, t.To = class, place
			passed = passed[:0]
		}
		if place%apart == 0 {
			m := milestone{state, place}
			t.Look = w.looks[m]
			passed = append(passed, m)
		}
		if t.Look == 0 {
			state, t.Look = w.step(state, place)
		}
	}
	for _, m := range passed {
		w.looks[m] = t.Look
	}
	return t
}

// step is the state to which the byte at a place leads; or up to where one looks, if it leads to none, or no byte stands there.
func (w *sweep) step(state, place int) (int, int) {
	if place == len(w.text) {
		return 0, place + 1
	}
	next, ok := w.Least.Next(state, w.text[place])
	if !ok {
		return 0, place + 1
	}
	return next, 0
}
