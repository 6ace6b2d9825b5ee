package items

import (
	"cmp"
	"maps"
	"slices"

	"frisket/sets"
)

// follow is classes, and maybe the end: the bits of a word, that has room for MaxTokens of them and the end.
type follow uint64

// spot is where a text stands ahead of a symbol of a production: all that closures ask of it, as they ask it very often.
type spot struct {
	ahead   sets.Symbol
	first   follow // with which begins what stands behind the symbol in the production
	through bool   // whether that may be empty, so that what stands behind the production may stand here, too
}

// row is a production's spots.
func (m *Maker) row(symbols []sets.Symbol) []spot {
	var row []spot
	for n, y := range symbols {
		s := spot{ahead: y}
		for _, c := range m.Begin(symbols[n+1:], m.End()) {
			// No place begins with the end: it is told just if all that stands ahead of it may be empty.
			if c == m.End() {
				s.through = true
			} else {
				s.first |= 1 << c
			}
		}
		row = append(row, s)
	}
	return row
}

// spot is where an item stands; false at the end of its production, or if there can't be such an item.
func (m *Maker) spot(i Item) (spot, bool) {
	if !m.has(i) || i.Dot == len(m.rows[i.Prod-whole]) {
		return spot{}, false
	}
	return m.rows[i.Prod-whole][i.Dot], true
}

// has tells whether there can be such an item.
func (m *Maker) has(i Item) bool {
	if m == nil || i.Prod < whole || i.Prod >= len(m.rows)+whole {
		return false
	}
	return i.Dot >= 0 && i.Dot <= len(m.rows[i.Prod-whole]) && i.Then >= 0 && i.Then <= m.End()
}

// compare is the order of items: by productions, dots, thens.
func compare(a, b Item) int {
	return cmp.Or(cmp.Compare(a.Prod, b.Prod), cmp.Compare(a.Dot, b.Dot), cmp.Compare(a.Then, b.Then))
}

// sorted is what was met, in an order.
func sorted[T comparable](met map[T]struct{}, order func(a, b T) int) []T {
	l := slices.AppendSeq(make([]T, 0, len(met)), maps.Keys(met))
	slices.SortFunc(l, order)
	return l
}
