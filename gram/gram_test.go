package gram_test

import (
	"reflect"
	"slices"
	"testing"

	"frisket/api"
	"frisket/gram"
	"frisket/scan"
)

// sums is the chapter's example, with some layout.
const sums = `token num [0-9]+
layout ws [\s\n]+
layout c #[a-z]*
sort e
rule e 1 Add = e:1 '+ e:2
rule e 2 Mul = e:2 '* e:3
rule e 9 Num = num
bracket e '( ')
`

// smallest is a grammar's last lines, behind which nothing is missing.
const smallest = "sort s\nrule s 0 S =\n"

// parsed is the grammar of a text that has one.
func parsed(t testing.TB, text string) *gram.Grammar {
	t.Helper()
	g, n, err := gram.Parse(text)
	if g == nil || n != 0 || err != api.OK {
		t.Fatalf("Parse(%.200q): %v, %d, %d", text, g, n, err)
	}
	return g
}

// sort is a part that is one.
func sort(n, level int) gram.Part {
	return gram.Part{Class: -1, Sort: n, Level: level}
}

// class is a part that is one.
func class(n int) gram.Part {
	return gram.Part{Class: n, Sort: -1}
}

// fixed is a part that is a literal's class.
func fixed(n int) gram.Part {
	return gram.Part{Class: n, Sort: -1, Fixed: true}
}

// P11.2: all that is told of the chapter's example.
func TestExample(t *testing.T) {
	g := parsed(t, sums)
	classes := []scan.Class{
		{Name: "lit0", Regex: `\+`}, {Name: "lit1", Regex: `\*`}, {Name: "lit2", Regex: `\(`}, {Name: "lit3", Regex: `\)`},
		{Name: "num", Regex: "[0-9]+"}, {Name: "ws", Regex: `[\s\n]+`, Layout: true}, {Name: "c", Regex: "#[a-z]*", Layout: true},
	}
	if got := g.Classes(); !slices.Equal(got, classes) {
		t.Errorf("Classes: %v", got)
	}
	if got := g.Sorts(); !slices.Equal(got, []string{"e"}) {
		t.Errorf("Sorts: %v", got)
	}
	rules := []gram.Rule{
		{Cons: "Add", Level: 1, Parts: []gram.Part{sort(0, 1), fixed(0), sort(0, 2)}},
		{Cons: "Mul", Level: 2, Parts: []gram.Part{sort(0, 2), fixed(1), sort(0, 3)}},
		{Cons: "Num", Level: 9, Parts: []gram.Part{class(4)}},
		{Level: 9, Parts: []gram.Part{fixed(2), sort(0, 0), fixed(3)}},
	}
	if got := g.Rules(); !reflect.DeepEqual(got, rules) {
		t.Errorf("Rules: %v", got)
	}
	if got := g.Print(); got != sums {
		t.Errorf("Print: %q", got)
	}
	for class, want := range []string{"+", "*", "(", ")"} {
		if got, ok := g.Literal(class); got != want || !ok {
			t.Errorf("Literal(%d): %q, %v", class, got, ok)
		}
	}
	if n, ok := g.Sort("e"); n != 0 || !ok {
		t.Errorf("Sort: %d, %v", n, ok)
	}
	if n, ok := g.Bracket(0); n != 3 || !ok {
		t.Errorf("Bracket: %d, %v", n, ok)
	}
	if l, err := g.Scanner().Scan("(1 #a"); err != api.OK || len(l) != 4 || l[0].Class != 2 || l[1].Class != 4 || l[2].Class != 5 || l[3].Class != 6 {
		t.Errorf("Scan: %v, %d", l, err)
	}
	if !slices.Equal(g.Scanner().Classes(), classes) {
		t.Errorf("Scanner: %v", g.Scanner().Classes())
	}
}

// P11.2: what there isn't.
func TestNone(t *testing.T) {
	g := parsed(t, sums)
	for _, class := range []int{-1, 4, 5, 7, 1 << 40} {
		if s, ok := g.Literal(class); s != "" || ok {
			t.Errorf("Literal(%d): %q, %v", class, s, ok)
		}
	}
	for _, name := range []string{"", "num", "lit0", "f", "Add"} {
		if n, ok := g.Sort(name); n != 0 || ok {
			t.Errorf("Sort(%q): %d, %v", name, n, ok)
		}
	}
	for _, sort := range []int{-1, 1, 1 << 40} {
		if n, ok := g.Bracket(sort); n != 0 || ok {
			t.Errorf("Bracket(%d): %d, %v", sort, n, ok)
		}
	}
	g = parsed(t, smallest)
	if n, ok := g.Bracket(0); n != 0 || ok {
		t.Errorf("Bracket without one: %d, %v", n, ok)
	}
	if g.Scanner() != nil || len(g.Classes()) != 0 {
		t.Errorf("without classes: %v, %v", g.Scanner(), g.Classes())
	}
	if s, ok := g.Literal(0); s != "" || ok {
		t.Errorf("Literal without one: %q, %v", s, ok)
	}
}

// P11.2: of a nil grammar there is nothing; of one that nobody made no call panics.
func TestNil(t *testing.T) {
	for _, g := range []*gram.Grammar{nil, {}} {
		if g.Classes() != nil || g.Scanner() != nil || g.Sorts() != nil || g.Rules() != nil || g.Print() != "" {
			t.Errorf("%v: something", g)
		}
		if s, ok := g.Literal(0); s != "" || ok {
			t.Errorf("Literal: %q, %v", s, ok)
		}
		if n, ok := g.Sort(""); n != 0 || ok {
			t.Errorf("Sort: %d, %v", n, ok)
		}
		if n, ok := g.Bracket(0); n != 0 || ok {
			t.Errorf("Bracket: %d, %v", n, ok)
		}
	}
}

// P11.2: lines may stand in any order; they are printed by their kinds, without those that count for nothing.
func TestOrder(t *testing.T) {
	g := parsed(t, "# first\n\nbracket b '[ ']\nrule a 3 One = b:4 'x late\n#\nsort b\nlayout w \\s\nrule b 9 - = 'y b:2 'x\nsort a\ntoken late [a-c]\nbracket a 'y 'y\n\n")
	if got, want := g.Print(), "layout w \\s\ntoken late [a-c]\nsort b\nsort a\nbracket b '[ ']\nrule a 3 One = b:4 'x late\nrule b 9 - = 'y b:2 'x\nbracket a 'y 'y\n"; got != want {
		t.Errorf("Print: %q", got)
	}
	classes := []scan.Class{{Name: "lit0", Regex: `\[`}, {Name: "lit1", Regex: `\]`}, {Name: "lit2", Regex: "x"}, {Name: "lit3", Regex: "y"}, {Name: "w", Regex: `\s`, Layout: true}, {Name: "late", Regex: "[a-c]"}}
	if got := g.Classes(); !slices.Equal(got, classes) {
		t.Errorf("Classes: %v", got)
	}
	rules := []gram.Rule{
		{Sort: 0, Level: 9, Parts: []gram.Part{fixed(0), sort(0, 0), fixed(1)}},
		{Sort: 1, Cons: "One", Level: 3, Parts: []gram.Part{sort(0, 4), fixed(2), class(5)}},
		{Sort: 0, Level: 9, Parts: []gram.Part{fixed(3), sort(0, 2), fixed(2)}},
		{Sort: 1, Level: 9, Parts: []gram.Part{fixed(3), sort(1, 0), fixed(3)}},
	}
	if got := g.Rules(); !reflect.DeepEqual(got, rules) {
		t.Errorf("Rules: %v", got)
	}
	if !slices.Equal(g.Sorts(), []string{"b", "a"}) {
		t.Errorf("Sorts: %v", g.Sorts())
	}
	for sort, want := range []int{0, 3} {
		if n, ok := g.Bracket(sort); n != want || !ok {
			t.Errorf("Bracket(%d): %d, %v", sort, n, ok)
		}
		if n, ok := g.Sort(g.Sorts()[sort]); n != sort || !ok {
			t.Errorf("Sort(%q): %d, %v", g.Sorts()[sort], n, ok)
		}
	}
}

// P11.2: a rule of the same parts is a bracket, too; one of others, or of another level, or with a constructor, is none.
func TestBracket(t *testing.T) {
	tests := []struct {
		rules string
		want  int
	}{
		{"rule s 9 - = '( s:0 ')\n", 0},
		{"rule s 9 - = '( t:0 ')\nrule s 8 - = '( s:0 ')\nrule s 9 - = '( s:1 ')\nrule s 9 B = '( s:0 ')\nrule s 9 - = '( s:0 ') ')\nrule s 9 - = s:0 '( ')\nrule s 9 C = a s:0 'x\nrule s 9 D = 'x s:0 a\nbracket t '< '>\n", -1},
		{"rule s 0 - = t:0\nbracket s 'x 'x\nrule s 9 - = '[ s:0 ']\n", 1},
	}
	for _, x := range tests {
		text := "token a a\nsort s\nsort t\n" + x.rules
		g := parsed(t, text)
		if n, ok := g.Bracket(0); n != max(x.want, 0) || ok != (x.want >= 0) {
			t.Errorf("Bracket of %q: %d, %v", x.rules, n, ok)
		}
		if g.Print() != text {
			t.Errorf("Print of %q: %q", text, g.Print())
		}
	}
}

// P11.2: an answer is new memory: what is done with it changes no other.
func TestNewMemory(t *testing.T) {
	g := parsed(t, sums)
	g.Classes()[0] = scan.Class{}
	g.Sorts()[0] = "x"
	rules := g.Rules()
	rules[0].Parts[0] = gram.Part{}
	rules[1] = gram.Rule{}
	again := parsed(t, sums)
	if !slices.Equal(g.Classes(), again.Classes()) || !slices.Equal(g.Sorts(), again.Sorts()) || !reflect.DeepEqual(g.Rules(), again.Rules()) {
		t.Errorf("changed: %v, %v, %v", g.Classes(), g.Sorts(), g.Rules())
	}
}
