package regex

import (
	"strings"

	"frisket/api"
)

const (
	deepest = 50           // how deep brackets may stand
	outside = `|*+?()[].\` // what means something out of a class
	inside  = `]^-\`       // and in one
)

// reader reads letters of a text. Where one can't be read, it stands at the byte that may not stand there, or at the text's end.
type reader struct {
	text string
	at   int
}

// next is the byte at which the reader stands; 0, which is never a letter, at the text's end.
func (r *reader) next() byte {
	if r.at == len(r.text) {
		return 0
	}
	return r.text[r.at]
}

// take goes on behind a byte, if it stands there.
func (r *reader) take(c byte) bool {
	if r.next() != c {
		return false
	}
	r.at++
	return true
}

// letter reads a letter where some bytes mean something.
func (r *reader) letter(special string) (byte, bool) {
	if r.take('\\') {
		return r.escaped(special)
	}
	c := r.next()
	if c <= ' ' || c > '~' || strings.IndexByte(special, c) >= 0 {
		return 0, false
	}
	r.at++
	return c, true
}

// escaped reads what stands behind a letter's backslash.
func (r *reader) escaped(special string) (byte, bool) {
	c := r.next()
	switch {
	case c == 'x':
		r.at++
		return r.hex()
	case c == 'n':
		r.at++
		return '\n', true
	case c == 't':
		r.at++
		return '\t', true
	case c == 's':
		r.at++
		return ' ', true
	case strings.IndexByte(special, c) >= 0:
		r.at++
		return c, true
	}
	return 0, false
}

// hex reads two hex digits.
func (r *reader) hex() (byte, bool) {
	number := 0
	for range 2 {
		digit := strings.IndexByte("0123456789abcdef", r.next())
		if digit < 0 {
			return 0, false
		}
		number = number*16 + digit
		r.at++
	}
	return byte(number), true
}

// group is what was read of an expression: the alternatives ahead of the last one, and the factors of that.
type group struct {
	ways, row []*Node
}

// nextWay ends an alternative.
func (g *group) nextWay() {
	g.ways = append(g.ways, Cat(g.row...))
	g.row = nil
}

// whole is the expression that was read.
func (g *group) whole() *Node {
	g.nextWay()
	return Or(g.ways...)
}

// size is how many nodes the group has.
func (g *group) size() int {
	total := 0
	for _, n := range g.ways {
		total += n.size
	}
	for _, n := range g.row {
		total += n.size
	}
	return total
}

// parser makes an expression of what a reader reads. What is too long is only read on, for it may be none at all: nothing more is made of it.
type parser struct {
	reader
	open []group // what was read of the whole, and of what stands in each open bracket
	deep int     // how many brackets are open
	long bool
}

// Parse is the expression that is written so.
func Parse(s string) (*Node, int, api.Errno) {
	p := &parser{reader: reader{text: s}, open: make([]group, 1)}
	if !p.read() {
		return nil, p.at, api.ErrForm
	}
	if p.long {
		return nil, 0, api.ErrLong
	}
	n := p.last().whole()
	if n.size > api.MaxRegex {
		return nil, 0, api.ErrLong
	}
	return n, 0, api.OK
}

// read reads all of the text. Brackets may stand nearly as deep as the text is long, so that it doesn't call itself.
func (p *parser) read() bool {
	factor := false // whether one stands just ahead
	for p.at < len(p.text) {
		switch {
		case p.take('|'):
			p.alternative()
			factor = false
		case p.take('('):
			p.begin()
			factor = false
		case p.deep > 0 && p.take(')'):
			p.end()
			factor = true
		case factor && strings.IndexByte("*+?", p.next()) >= 0:
			p.repeat()
		case p.atom():
			factor = true
		default:
			return false
		}
		p.weigh()
	}
	return p.deep == 0
}

// weigh gives up what is too long. The nodes that were read are all nodes of the whole.
func (p *parser) weigh() {
	total := 0
	for i := range p.open {
		total += p.open[i].size()
	}
	if total > api.MaxRegex || p.deep > deepest {
		p.long, p.open = true, nil
	}
}

// last is what was read of the innermost expression.
func (p *parser) last() *group {
	return &p.open[len(p.open)-1]
}

// put is a factor that was read.
func (p *parser) put(n *Node) {
	if !p.long {
		p.last().row = append(p.last().row, n)
	}
}

// alternative goes on to the next alternative.
func (p *parser) alternative() {
	if !p.long {
		p.last().nextWay()
	}
}

// begin goes on into a bracket.
func (p *parser) begin() {
	p.deep++
	if !p.long {
		p.open = append(p.open, group{})
	}
}

// end goes on behind a bracket.
func (p *parser) end() {
	p.deep--
	if !p.long {
		n := p.last().whole()
		p.open = p.open[:len(p.open)-1]
		p.put(n)
	}
}

// repeat reads what stands behind a factor.
func (p *parser) repeat() {
	c := p.next()
	p.at++
	if !p.long {
		row := p.last().row
		row[len(row)-1] = repeated(row[len(row)-1], c)
	}
}

// repeated is a node with one of * + ? behind it.
func repeated(n *Node, c byte) *Node {
	switch c {
	case '*':
		return Star(n)
	case '+':
		return Cat(n, Star(n))
	}
	return Or(n, Empty())
}

// atom reads an atom that isn't in brackets.
func (p *parser) atom() bool {
	var set [4]uint64
	ok := true
	switch {
	case p.take('.'):
		set = others(between('\n', '\n'))
	case p.take('['):
		set, ok = p.class()
	default:
		var c byte
		c, ok = p.letter(outside)
		set = between(c, c)
	}
	if ok {
		p.put(Set(set))
	}
	return ok
}

// class reads a class, its end among it.
func (r *reader) class() ([4]uint64, bool) {
	var set [4]uint64
	turned := r.take('^')
	for set == [4]uint64{} || !r.take(']') { // of nothing at all there is no class
		some, ok := r.letters()
		if !ok {
			return set, false
		}
		for i := range set {
			set[i] |= some[i]
		}
	}
	if turned {
		set = others(set)
	}
	return set, true
}

// letters reads a letter of a class, or a range.
func (r *reader) letters() ([4]uint64, bool) {
	first, ok := r.letter(inside)
	if !ok || !r.take('-') {
		return between(first, first), ok
	}
	second := r.at
	last, ok := r.letter(inside)
	if ok && last < first {
		r.at = second
		return [4]uint64{}, false
	}
	return between(first, last), ok
}
