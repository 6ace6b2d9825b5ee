package dfa

import (
	"frisket/api"
	"frisket/bitset"
	"frisket/nfa"
)

// maker meets the states of a machine.
type maker struct {
	first   bitset.Set     // the positions that may stand first
	follow  []bitset.Set   // of each position: those that may stand behind it
	kind    [256]int       // of each byte: bytes that stand in the same positions' Sets lead to the same, and are gone through once for all of them
	has     []bitset.Set   // of each kind: the positions whose Set has it
	numbers map[string]int // of each state but 0, by its positions, told as a text
	states  []bitset.Set
	rows    [][]int // of each state, by kinds: where they lead
}

// newMaker asks a machine all that its states hang on.
func newMaker(m *nfa.Machine) *maker {
	room := m.Len()
	k := &maker{first: bitset.New(room), numbers: map[string]int{}, states: []bitset.Set{bitset.New(room)}}
	for rule := range m.Rules() {
		for _, p := range m.First(rule) {
			k.first.Add(p)
		}
	}
	for p := range room {
		k.follow = append(k.follow, bitset.Of(room, m.Follow(p)...))
	}
	var has [256]bitset.Set
	for b := range has {
		has[b] = bitset.New(room)
		for p := range room {
			if m.Has(p, byte(b)) {
				has[b].Add(p)
			}
		}
	}
	var kinds int
	k.kind, kinds = grouped(func(b int) string { return has[b].Text() })
	k.has = make([]bitset.Set, kinds)
	for b, kind := range k.kind {
		k.has[kind] = has[b]
	}
	return k
}

// grouped numbers bytes by their columns: those with the same one have one number. The numbers rise with the first bytes that have them; there are so many.
func grouped(column func(b int) string) ([256]int, int) {
	var groups [256]int
	numbers := map[string]int{}
	for b := range 256 {
		text := column(b)
		n, ok := numbers[text]
		if !ok {
			n = len(numbers)
			numbers[text] = n
		}
		groups[b] = n
	}
	return groups, len(numbers)
}

// meet meets all states; false, if there are too many. (Kinds are numbered by their first bytes, so that states are met by bytes that rise.)
func (k *maker) meet() bool {
	for n := 0; n < len(k.states); n++ {
		ahead := k.ahead(n)
		row := make([]int, len(k.has))
		for kind, has := range k.has {
			row[kind] = k.number(ahead.Meet(has))
		}
		k.rows = append(k.rows, row)
		if len(k.states) > api.MaxStates {
			return false
		}
	}
	return true
}

// ahead is the positions that may stand behind a state.
func (k *maker) ahead(n int) bitset.Set {
	if n == 0 {
		return k.first
	}
	ahead := bitset.New(len(k.follow))
	for p := range k.states[n].All() {
		ahead.Join(k.follow[p])
	}
	return ahead
}

// number is the number of the state of some positions, which may be met just now.
func (k *maker) number(at bitset.Set) int {
	if at.None() {
		return none
	}
	text := at.Text()
	n, ok := k.numbers[text]
	if !ok {
		n = len(k.states)
		k.numbers[text] = n
		k.states = append(k.states, at)
	}
	return n
}

// column tells where a byte leads from all states, two bytes for each.
func (k *maker) column(b int) string {
	text := make([]byte, 0, 2*len(k.rows))
	for _, row := range k.rows {
		to := row[k.kind[b]]
		text = append(text, byte(to), byte(to>>8))
	}
	return string(text)
}

// accepted is what each state accepts.
func (k *maker) accepted(m *nfa.Machine) []int {
	ends := bitset.New(m.Len())
	for rule := range m.Rules() {
		for _, p := range m.Last(rule) {
			ends.Add(p)
		}
	}
	accept := make([]int, len(k.states))
	for n, at := range k.states {
		accept[n] = leastRule(m, at, ends)
	}
	return accept
}

// leastRule is the least expression that may end at one of some positions. Positions rise with their expressions, so that the first one's is the least.
func leastRule(m *nfa.Machine, at, ends bitset.Set) int {
	for p := range at.All() {
		if ends.Has(p) {
			return m.Rule(p)
		}
	}
	return none
}
