package least

import (
	"slices"

	"frisket/dfa"
)

// parts puts the states of an automaton together by kinds: at first all that aren't dead are of one, at last those that are alike.
type parts struct {
	accept []int
	next   [][]int // of each state, by classes of bytes: the state to which they lead; none, if that one is dead
	before [][]int // of each state: those from which a byte leads to it
	kind   []int   // of each state; none of dead ones, but the first
	kinds  int
}

// signature is what states of one kind have the same: what they accept, and the kinds to which classes of bytes lead.
type signature struct {
	accept int
	to     [256]int16
}

// nones is a list of so many.
func nones(n int) []int {
	return slices.Repeat([]int{none}, n)
}

// newParts asks an automaton all that its states hang on.
func newParts(d *dfa.Dfa) *parts {
	firsts := firstBytes(d)
	p := &parts{before: make([][]int, d.States()), kind: nones(d.States()), kinds: 1}
	for n := range d.States() {
		row := nones(len(firsts))
		for class, b := range firsts {
			to, ok := d.Next(n, b)
			if !ok {
				continue
			}
			row[class] = to
			if l := p.before[to]; len(l) == 0 || l[len(l)-1] != n {
				p.before[to] = append(l, n)
			}
		}
		p.next = append(p.next, row)
		p.accept = append(p.accept, d.Accept(n))
	}
	p.leaveDead()
	return p
}

// firstBytes is the first byte of each class.
func firstBytes(d *dfa.Dfa) []byte {
	var firsts []byte
	for b := range 256 {
		if d.Class(byte(b)) == len(firsts) {
			firsts = append(firsts, byte(b))
		}
	}
	return firsts
}

// leaveDead gives all states a kind but the dead ones, to which nothing leads any more; the first one has a kind always.
func (p *parts) leaveDead() {
	var alive []int
	reach := func(n int) {
		if p.kind[n] == none {
			p.kind[n] = 0
			alive = append(alive, n)
		}
	}
	for n, accept := range p.accept {
		if accept != none {
			reach(n)
		}
	}
	for i := 0; i < len(alive); i++ {
		for _, n := range p.before[alive[i]] {
			reach(n)
		}
	}
	for _, row := range p.next {
		for class, to := range row {
			if to != none && p.kind[to] == none {
				row[class] = none
			}
		}
	}
	if len(p.kind) > 0 {
		p.kind[0] = 0
	}
}

// tellApart makes more kinds, until the states of each have one signature. A state is looked at again only if one to which it leads is of another kind than before: of a long row of states each round tells but one more from the others.
func (p *parts) tellApart() {
	var looked []int
	for n, kind := range p.kind {
		if kind != none {
			looked = append(looked, n)
		}
	}
	for len(looked) > 0 {
		looked = p.behind(p.split(p.groups(looked)))
	}
}

// groups is the states of the kinds of some, by signatures. Of each kind the states that aren't among those have one signature, so that it is made for the first of them alone.
func (p *parts) groups(looked []int) [][]int {
	isLooked := make([]bool, len(p.kind))
	hasLooked := make([]bool, p.kinds)
	for _, n := range looked {
		isLooked[n] = true
		hasLooked[p.kind[n]] = true
	}
	var groups [][]int
	numbers := map[signature]int{}
	others := nones(p.kinds) // of each kind: the group of the states that aren't looked at
	for n, kind := range p.kind {
		if kind == none || !hasLooked[kind] {
			continue
		}
		group := others[kind]
		if isLooked[n] || group == none {
			sign, ok := p.signature(n), false
			if group, ok = numbers[sign]; !ok {
				group = len(groups)
				numbers[sign] = group
				groups = append(groups, nil)
			}
		}
		if !isLooked[n] {
			others[kind] = group
		}
		groups[group] = append(groups[group], n)
	}
	return groups
}

// signature is that of a state.
func (p *parts) signature(n int) signature {
	sign := signature{accept: p.accept[n]}
	for class, to := range p.next[n] {
		sign.to[class] = none
		if to != none {
			sign.to[class] = int16(p.kind[to])
		}
	}
	return sign
}

// split makes kinds of groups, and is the states whose kind is new. The greatest group of each kind stays of it: so a state's kind is at most half of what it was, each time that it is new.
func (p *parts) split(groups [][]int) []int {
	stays := nones(p.kinds) // of each kind, the group
	for g, l := range groups {
		kind := p.kind[l[0]]
		if stays[kind] == none || len(l) > len(groups[stays[kind]]) {
			stays[kind] = g
		}
	}
	var moved []int
	for g, l := range groups {
		if stays[p.kind[l[0]]] == g {
			continue
		}
		for _, n := range l {
			p.kind[n] = p.kinds
		}
		p.kinds++
		moved = append(moved, l...)
	}
	return moved
}

// behind is the states that lead to some, each once.
func (p *parts) behind(some []int) []int {
	var l []int
	for _, n := range some {
		l = append(l, p.before[n]...)
	}
	slices.Sort(l)
	return slices.Compact(l)
}
