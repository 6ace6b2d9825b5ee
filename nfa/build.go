package nfa

import (
	"maps"
	"slices"

	"frisket/api"
	"frisket/bitset"
	"frisket/regex"
)

// gist is what a node comes to if the nodes that add no position to it are left out. Without them a node may be gone through in every place where it stands: there are fewer such places than twice its positions, though there may be more nodes than can be counted.
type gist struct {
	count int         // how many positions it has, up to one more than there may be
	core  *regex.Node // what is left: a Set, or a node of two parts that both have positions; nil without positions
	star  bool        // whether that may stand there any number of times
}

// gists is the gist of each node in some expressions. It keeps a list of its own: nodes may stand deeper in one another than calls can.
func gists(l []*regex.Node) map[*regex.Node]gist {
	found := map[*regex.Node]gist{}
	for work := slices.Clone(l); len(work) > 0; {
		n := work[len(work)-1]
		ahead := len(work)
		var parts []gist
		for _, p := range regex.Parts(n) {
			g, ok := found[p]
			if !ok {
				work = append(work, p)
			}
			parts = append(parts, g)
		}
		if len(work) == ahead {
			found[n] = gistOf(n, parts)
			work = work[:ahead-1]
		}
	}
	return found
}

// gistOf is a node's gist, of those of its parts.
func gistOf(n *regex.Node, parts []gist) gist {
	switch regex.Kind(n) {
	case regex.KindSet:
		return gist{count: 1, core: n}
	case regex.KindEmpty:
		return gist{}
	case regex.KindStar:
		return gist{count: parts[0].count, core: parts[0].core, star: true}
	}
	if parts[0].core == nil {
		return parts[1]
	}
	if parts[1].core == nil {
		return parts[0]
	}
	return gist{count: min(parts[0].count+parts[1].count, api.MaxStates+1), core: n}
}

// known is what is known of an expression: with which positions it may begin, and end.
type known struct {
	first, last map[int]struct{}
	empty       bool
}

// builder puts expressions into a machine.
type builder struct {
	*Machine
	gists map[*regex.Node]gist
}

// add puts an expression behind those that are in.
func (b *builder) add(n *regex.Node) {
	k := b.know(n)
	b.first = append(b.first, slices.Sorted(maps.Keys(k.first)))
	b.last = append(b.last, slices.Sorted(maps.Keys(k.last)))
	b.empty = append(b.empty, k.empty)
}

// know goes through a node and puts its positions in.
func (b *builder) know(n *regex.Node) known {
	g := b.gists[n]
	var k known
	if g.core != nil {
		k = b.knowCore(g.core)
	}
	if g.star {
		b.behind(k.last, k.first)
	}
	k.empty = regex.Nullable(n)
	return k
}

// knowCore goes through a Set, or a node of two parts.
func (b *builder) knowCore(n *regex.Node) known {
	if regex.Kind(n) == regex.KindSet {
		return b.newPosition(n)
	}
	parts := regex.Parts(n)
	left := b.know(parts[0])
	right := b.know(parts[1])
	if regex.Kind(n) == regex.KindOr {
		return known{first: joined(left.first, right.first), last: joined(left.last, right.last)}
	}
	b.behind(left.last, right.first)
	k := known{first: left.first, last: right.last}
	if left.empty {
		k.first = joined(left.first, right.first)
	}
	if right.empty {
		k.last = joined(left.last, right.last)
	}
	return k
}

// newPosition puts a Set in, as the next position.
func (b *builder) newPosition(n *regex.Node) known {
	p := b.Len()
	b.sets = append(b.sets, regex.Bytes(n))
	b.rules = append(b.rules, b.Rules())
	return known{first: map[int]struct{}{p: {}}, last: map[int]struct{}{p: {}}}
}

// behind lets positions stand behind others.
func (b *builder) behind(last, first map[int]struct{}) {
	all := bitset.New(len(b.follow))
	for p := range first {
		all.Add(p)
	}
	for p := range last {
		b.follow[p].Join(all)
	}
}

// joined is the positions of two sets that aren't needed any more: the smaller one is put into the greater one, so that a long row of parts isn't copied at each of them.
func joined(s, t map[int]struct{}) map[int]struct{} {
	if len(s) < len(t) {
		s, t = t, s
	}
	for p := range t {
		s[p] = struct{}{}
	}
	return s
}
