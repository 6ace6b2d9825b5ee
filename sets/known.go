package sets

import (
	"math/bits"
	"slices"
)

// classes is some classes, and maybe the end: the bits of one word, that has room for MaxTokens of them and the end.
type classes struct {
	word uint64
}

// join is the classes of both.
func (c classes) join(d classes) classes {
	return classes{c.word | d.word}
}

// list is the classes' numbers, rising.
func (c classes) list() []int {
	var l []int
	for word := c.word; word != 0; word &= word - 1 {
		l = append(l, bits.TrailingZeros64(word))
	}
	return l
}

// known is what is known of a place.
type known struct {
	empty         bool
	first, follow classes
}

// learn finds the least sets: from nothing on, till no production tells anything more.
func (s *Sets) learn() {
	s.known = make([]known, len(s.places))
	s.known[0].follow, _ = s.of(Symbol{N: s.end})
	for more := true; more; {
		more = false
		for _, p := range s.productions {
			if s.learnBegin(p) {
				more = true
			}
			if s.learnFollow(p) {
				more = true
			}
		}
	}
}

// learnBegin learns of a production how its place begins; true, if that is more than was known.
func (s *Sets) learnBegin(p Production) bool {
	first, empty := s.begin(p.Symbols)
	k := s.known[p.Place]
	k.first, k.empty = k.first.join(first), k.empty || empty
	return s.put(p.Place, k)
}

// learnFollow learns of a production what follows the places in it; true, if that is more than was known.
func (s *Sets) learnFollow(p Production) bool {
	more := false
	behind := s.known[p.Place].follow
	for _, y := range slices.Backward(p.Symbols) {
		if y.Place {
			k := s.known[y.N]
			k.follow = k.follow.join(behind)
			if s.put(y.N, k) {
				more = true
			}
		}
		first, empty := s.of(y)
		if empty {
			first = first.join(behind)
		}
		behind = first
	}
	return more
}

// put puts down what is known of a place; true, if it is something else than what was known.
func (s *Sets) put(place int, k known) bool {
	if s.known[place] == k {
		return false
	}
	s.known[place] = k
	return true
}

// begin is with what symbols begin, and whether all of them may be empty.
func (s *Sets) begin(l []Symbol) (classes, bool) {
	var c classes
	for _, y := range l {
		first, empty := s.of(y)
		c = c.join(first)
		if !empty {
			return c, false
		}
	}
	return c, true
}

// of is with what a symbol begins, and whether it may be empty. What isn't there begins with nothing.
func (s *Sets) of(y Symbol) (classes, bool) {
	if y.Place && s.isPlace(y.N) {
		return s.known[y.N].first, s.known[y.N].empty
	}
	if !y.Place && y.N >= 0 && y.N <= s.end {
		return classes{1 << y.N}, false
	}
	return classes{}, false
}
