package sets

import "frisket/gram"

// finder finds the places that are met, and their productions.
type finder struct {
	*Sets
	numbers map[Place]int
}

// find finds all places, and their productions: a place that is met has its turn behind those that were met ahead of it.
func (s *Sets) find(rules []gram.Rule) {
	f := finder{s, map[Place]int{}}
	f.number(Place{})
	for n := 0; n < len(s.places); n++ {
		s.from = append(s.from, len(s.productions))
		for r, rule := range rules {
			if at := s.places[n]; rule.Sort == at.Sort && rule.Level >= at.Level {
				s.productions = append(s.productions, Production{n, r, f.symbols(rule.Parts)})
			}
		}
	}
	s.from = append(s.from, len(s.productions))
}

// number is a place's number, a new one, if it wasn't met yet.
func (f finder) number(p Place) int {
	n, met := f.numbers[p]
	if !met {
		n = len(f.places)
		f.numbers[p] = n
		f.places = append(f.places, p)
	}
	return n
}

// symbols is a rule's parts as symbols.
func (f finder) symbols(parts []gram.Part) []Symbol {
	var l []Symbol
	for _, p := range parts {
		if p.Class >= 0 {
			l = append(l, Symbol{N: p.Class})
		} else {
			l = append(l, Symbol{Place: true, N: f.number(Place{p.Sort, p.Level})})
		}
	}
	return l
}
