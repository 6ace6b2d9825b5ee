package regex

// fewNodes is how many nodes an expression may have to be gone through as if no node stood in two places of it.
const fewNodes = 1 << 14

// spot is a place in an expression where a node stands. It is known by the run's time when it last began there, and when it last ended.
type spot struct {
	node         *Node
	up           *spot    // the spot that it is a part of
	parts        [2]*spot // made when they are first come to: most of a great expression may never be
	begun, ended int
	waiting      []*spot // of a spot that is run for several others: those
}

// part is the spot of a part.
func (p *spot) part(i int) *spot {
	if p.parts[i] == nil {
		p.parts[i] = &spot{node: p.node.parts[i], up: p}
	}
	return p.parts[i]
}

// run goes through a text with all spots at once at which it may stand.
type run struct {
	time         int // one more than the bytes that were read, so that a new spot has never begun
	begins, ends []*spot
	sets         []*spot // what may take the next byte
	often        map[*Node]int
	joint        map[*Node]*spot // what began now and is run for several spots
}

// Matches tells whether an expression means a text.
func Matches(n *Node, s string) bool {
	if n == nil {
		return false
	}
	whole := &spot{node: n}
	r := &run{time: 1, begins: []*spot{whole}}
	if n.size > fewNodes {
		r.often, r.joint = standing(n), map[*Node]*spot{}
	}
	r.settle()
	for _, c := range []byte(s) {
		if len(r.sets) == 0 {
			return false
		}
		r.read(c)
	}
	return whole.ended == r.time
}

// standing is how often each node stands in others. Nodes that stand in twos, again and again, have far more spots than a run can come to.
func standing(n *Node) map[*Node]int {
	often := map[*Node]int{}
	for work := []*Node{n}; len(work) > 0; {
		last := work[len(work)-1]
		work = work[:len(work)-1]
		for _, p := range last.parts {
			often[p]++
			if often[p] == 1 {
				work = append(work, p)
			}
		}
	}
	return often
}

// read goes on behind a byte.
func (r *run) read(c byte) {
	r.time++
	for _, p := range r.sets {
		if p.node.set[c/64]>>(c%64)&1 == 1 {
			r.ends = append(r.ends, p)
		}
	}
	r.sets = r.sets[:0]
	clear(r.joint)
	r.settle()
}

// settle does all that can be done ahead of the next byte. It keeps lists of its own: nodes may stand deeper in one another than calls can.
func (r *run) settle() {
	for len(r.begins)+len(r.ends) > 0 {
		if p := pop(&r.ends); p != nil {
			if p.ended != r.time {
				p.ended = r.time
				r.end(p)
			}
		} else if p := pop(&r.begins); p.begun != r.time {
			p.begun = r.time
			r.begin(p)
		}
	}
}

// pop takes the last spot off a list; nil, if there is none.
func pop(l *[]*spot) *spot {
	last := len(*l) - 1
	if last < 0 {
		return nil
	}
	p := (*l)[last]
	*l = (*l)[:last]
	return p
}

// begin does what follows when a spot begins.
func (r *run) begin(p *spot) {
	if p.up != nil && len(p.node.parts) > 0 && r.often[p.node] > 1 {
		r.join(p)
		return
	}
	switch p.node.kind {
	case KindSet:
		r.sets = append(r.sets, p)
	case KindEmpty:
		r.ends = append(r.ends, p)
	case KindCat:
		r.begins = append(r.begins, p.part(0))
	case KindOr:
		r.begins = append(r.begins, p.part(0), p.part(1))
	case KindStar:
		r.ends = append(r.ends, p)
		r.begins = append(r.begins, p.part(0))
	}
}

// join lets a spot wait for one that is run for all spots of its node that begin now.
func (r *run) join(p *spot) {
	one := r.joint[p.node]
	if one == nil {
		one = &spot{node: p.node}
		r.joint[p.node] = one
		r.begins = append(r.begins, one)
	}
	one.waiting = append(one.waiting, p)
	if one.ended == r.time {
		r.ends = append(r.ends, p)
	}
}

// end does what follows when a spot ends.
func (r *run) end(p *spot) {
	if p.up == nil {
		r.ends = append(r.ends, p.waiting...)
		return
	}
	switch p.up.node.kind {
	case KindCat:
		if p == p.up.parts[0] {
			r.begins = append(r.begins, p.up.part(1))
		} else {
			r.ends = append(r.ends, p.up)
		}
	case KindOr:
		r.ends = append(r.ends, p.up)
	case KindStar:
		r.begins = append(r.begins, p.up)
	}
}
