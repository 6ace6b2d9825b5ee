package scan

import (
	"slices"

	"frisket/api"
	"frisket/dfa"
	"frisket/least"
	"frisket/nfa"
	"frisket/regex"
)

// maxName is how long a class's name may be.
const maxName = 20

// New is a scanner of classes.
func New(l ...Class) (*Scanner, int, api.Errno) {
	if len(l) == 0 {
		return nil, 0, api.ErrNone
	}
	s := &Scanner{numbers: map[string]int{}}
	var expressions []*regex.Node
	for i, c := range l {
		n, err := s.add(c)
		if err != api.OK {
			return nil, i, err
		}
		expressions = append(expressions, n)
	}
	automaton, err := automatonOf(expressions)
	if err != api.OK {
		return nil, 0, err
	}
	s.Least = automaton
	return s, len(l), api.OK
}

// add puts a class behind the others, and answers its expression.
func (s *Scanner) add(c Class) (*regex.Node, api.Errno) {
	if len(s.classes) == api.MaxTokens {
		return nil, api.ErrLong
	}
	if _, ok := s.numbers[c.Name]; ok || !isName(c.Name) {
		return nil, api.ErrName
	}
	n, _, err := regex.Parse(c.Regex)
	if err != api.OK {
		return nil, err
	}
	if regex.Nullable(n) || isVoid(n) {
		return nil, api.ErrVoid
	}
	s.numbers[c.Name] = len(s.classes)
	s.classes = append(s.classes, c)
	return n, api.OK
}

// isName tells whether a class may be named so.
func isName(s string) bool {
	if s == "" || len(s) > maxName || !isSmall(s[0]) {
		return false
	}
	for _, c := range []byte(s) {
		if !isSmall(c) && (c < '0' || c > '9') {
			return false
		}
	}
	return true
}

// isSmall tells whether a byte is a small letter.
func isSmall(c byte) bool {
	return c >= 'a' && c <= 'z'
}

// isVoid tells whether an expression means nothing at all. (One that is written has few nodes, however they stand within each other.)
func isVoid(n *regex.Node) bool {
	switch regex.Kind(n) {
	case regex.KindSet:
		return regex.Bytes(n) == [4]uint64{}
	case regex.KindCat:
		return slices.ContainsFunc(regex.Parts(n), isVoid)
	case regex.KindOr:
		return !slices.ContainsFunc(regex.Parts(n), func(part *regex.Node) bool { return !isVoid(part) })
	}
	return false
}

// automatonOf is the least automaton of expressions.
func automatonOf(l []*regex.Node) (*least.Least, api.Errno) {
	m, err := nfa.New(l...)
	if err != api.OK {
		return nil, err
	}
	d, err := dfa.New(m)
	if err != api.OK {
		return nil, err
	}
	return least.New(d)
}
