package gram

import (
	"slices"
	"strconv"
	"strings"

	"frisket/api"
	"frisket/scan"
)

// names are numbered in the order in which they are met.
type names struct {
	list    []string
	numbers map[string]int
}

// add numbers a name, if it wasn't met yet.
func (n *names) add(name string) {
	if n.numbers == nil {
		n.numbers = map[string]int{}
	}
	if _, ok := n.numbers[name]; !ok {
		n.numbers[name] = len(n.list)
		n.list = append(n.list, name)
	}
}

// find is a name's number.
func (n *names) find(name string) (int, bool) {
	number, ok := n.numbers[name]
	return number, ok
}

// draft is a rule, or a bracket, as it is written: lines behind it may tell what its names mean, and how many literals stand ahead of its classes.
type draft struct {
	line  int
	sort  string
	cons  string
	level int
	parts []word
}

// gathered is what lines told.
type gathered struct {
	classes                          []scan.Class // without literals
	drafts                           []draft
	classNames, literals, sorts      names
	conses, brackets                 names // constructors, and sorts that have a bracket's line
	classLines, sortLines, ruleLines []string
}

// addClass puts a class behind the others. It must be able to stand alone, lest it be told of all classes that one of them can't.
func (g *gathered) addClass(c scan.Class) api.Errno {
	if g.isTaken(c.Name) {
		return api.ErrName
	}
	if _, _, err := scan.New(c); err != api.OK {
		return err
	}
	g.classNames.add(c.Name)
	g.classes = append(g.classes, c)
	return g.weigh()
}

// addSort puts a sort behind the others.
func (g *gathered) addSort(name string) api.Errno {
	if g.isTaken(name) {
		return api.ErrName
	}
	g.sorts.add(name)
	return g.weigh()
}

// addRule puts a rule, or a bracket, behind the others.
func (g *gathered) addRule(d draft) api.Errno {
	if d.cons != "" {
		if _, ok := g.conses.find(d.cons); ok {
			return api.ErrName
		}
		g.conses.add(d.cons)
	}
	for _, w := range d.parts {
		if w.kind == aLiteral {
			g.literals.add(w.text)
		}
	}
	g.drafts = append(g.drafts, d)
	return g.weigh()
}

// isTaken tells whether a class, or a sort, has a name.
func (g *gathered) isTaken(name string) bool {
	_, class := g.classNames.find(name)
	_, sort := g.sorts.find(name)
	return class || sort
}

// weigh tells whether there is more than may be.
func (g *gathered) weigh() api.Errno {
	classes := len(g.literals.list) + len(g.classes)
	if classes > api.MaxTokens || len(g.sorts.list) > api.MaxSorts || len(g.drafts) > api.MaxRules {
		return api.ErrLong
	}
	return api.OK
}

// grammar is the grammar of all lines.
func (g *gathered) grammar() (*Grammar, int, api.Errno) {
	var rules []Rule
	for _, d := range g.drafts {
		rule, ok := g.rule(d)
		if !ok {
			return nil, d.line, api.ErrName
		}
		rules = append(rules, rule)
	}
	if len(g.sorts.list) == 0 || len(rules) == 0 {
		return nil, 0, api.ErrNone
	}
	classes := g.allClasses()
	scanner, err := scannerOf(classes)
	if err != api.OK {
		return nil, 0, err
	}
	return &Grammar{
		classes:  classes,
		literals: g.literals.list,
		scanner:  scanner,
		sorts:    g.sorts,
		rules:    rules,
		text:     g.text(),
	}, 0, api.OK
}

// rule is a rule whose names all mean something.
func (g *gathered) rule(d draft) (Rule, bool) {
	sort, known := g.sorts.find(d.sort)
	rule := Rule{Sort: sort, Cons: d.cons, Level: d.level}
	for _, w := range d.parts {
		part, ok := g.part(w)
		known = known && ok
		rule.Parts = append(rule.Parts, part)
	}
	return rule, known
}

// part is the part that a word tells.
func (g *gathered) part(w word) (Part, bool) {
	switch w.kind {
	case aLiteral:
		class, ok := g.literals.find(w.text)
		return Part{Class: class, Sort: none, Fixed: true}, ok
	case aClass:
		class, ok := g.classNames.find(w.text)
		return Part{Class: len(g.literals.list) + class, Sort: none}, ok
	}
	sort, ok := g.sorts.find(w.text)
	return Part{Class: none, Sort: sort, Level: w.level}, ok
}

// allClasses is the literals' classes, and the others behind them.
func (g *gathered) allClasses() []scan.Class {
	var l []scan.Class
	for n, text := range g.literals.list {
		l = append(l, scan.Class{Name: ours + strconv.Itoa(n), Regex: expression(text)})
	}
	return append(l, g.classes...)
}

// scannerOf is the scanner of classes; a grammar needn't have any.
func scannerOf(l []scan.Class) (*scan.Scanner, api.Errno) {
	if len(l) == 0 {
		return nil, api.OK
	}
	s, _, err := scan.New(l...)
	return s, err
}

// text is the lines as they are printed. A line can be written in one way alone, so that they are those that were read.
func (g *gathered) text() string {
	lines := slices.Concat(g.classLines, g.sortLines, g.ruleLines)
	return strings.Join(lines, "\n") + "\n"
}
