package sets_test

import (
	"fmt"
	"math/rand"
	"reflect"
	"slices"
	"strings"
	"testing"

	"frisket/gram"
	"frisket/sets"
)

// model is what the chapter's words say of a grammar, step by step.
type model struct {
	places      []sets.Place
	productions []sets.Production
	end         int
	empty       map[int]bool
	first       map[[2]int]bool // a place, and a class
	follow      map[[2]int]bool
}

// modelOf is the model of a grammar.
func modelOf(g *gram.Grammar) *model {
	m := &model{end: len(g.Classes()), empty: map[int]bool{}, first: map[[2]int]bool{}, follow: map[[2]int]bool{}}
	meet := func(p sets.Place) int {
		if !slices.Contains(m.places, p) {
			m.places = append(m.places, p)
		}
		return slices.Index(m.places, p)
	}
	for n := meet(sets.Place{}); n < len(m.places); n++ {
		for i, r := range g.Rules() {
			if r.Sort != m.places[n].Sort || r.Level < m.places[n].Level {
				continue
			}
			p := sets.Production{Place: n, Rule: i}
			for _, part := range r.Parts {
				if part.Sort < 0 {
					p.Symbols = append(p.Symbols, class(part.Class))
				} else {
					p.Symbols = append(p.Symbols, place(meet(sets.Place{Sort: part.Sort, Level: part.Level})))
				}
			}
			m.productions = append(m.productions, p)
		}
	}
	m.follow[[2]int{0, m.end}] = true
	for size := -1; size != len(m.empty)+len(m.first)+len(m.follow); {
		size = len(m.empty) + len(m.first) + len(m.follow)
		for _, p := range m.productions {
			m.learn(p)
		}
	}
	return m
}

// allEmpty tells whether all of some symbols are places that may be empty.
func (m *model) allEmpty(l []sets.Symbol) bool {
	return !slices.ContainsFunc(l, func(y sets.Symbol) bool { return !y.Place || !m.empty[y.N] })
}

// begins tells whether a symbol begins with a class.
func (m *model) begins(y sets.Symbol, c int) bool {
	return y == class(c) || y.Place && m.first[[2]int{y.N, c}]
}

// learn takes each of the words for one production.
func (m *model) learn(p sets.Production) {
	if m.allEmpty(p.Symbols) {
		m.empty[p.Place] = true
	}
	for c := range m.end + 1 {
		for i, y := range p.Symbols {
			if m.allEmpty(p.Symbols[:i]) && m.begins(y, c) {
				m.first[[2]int{p.Place, c}] = true
			}
			for j := i + 1; y.Place && j < len(p.Symbols); j++ {
				if m.allEmpty(p.Symbols[i+1:j]) && m.begins(p.Symbols[j], c) {
					m.follow[[2]int{y.N, c}] = true
				}
			}
			if y.Place && m.allEmpty(p.Symbols[i+1:]) && m.follow[[2]int{p.Place, c}] {
				m.follow[[2]int{y.N, c}] = true
			}
		}
	}
}

// classes is those of which something holds.
func (m *model) classes(is func(c int) bool) []int {
	var l []int
	for c := range m.end + 1 {
		if is(c) {
			l = append(l, c)
		}
	}
	return l
}

// begin is what Begin tells.
func (m *model) begin(l []sets.Symbol, then int) []int {
	l = append(slices.Clone(l), class(then))
	return m.classes(func(c int) bool {
		for i, y := range l {
			if m.allEmpty(l[:i]) && m.begins(y, c) {
				return true
			}
		}
		return false
	})
}

// maker makes grammars by chance.
type maker struct{ *rand.Rand }

// text is a grammar's text, of three classes and two literals, up to four sorts, rules of few parts.
func (r maker) text() string {
	var b strings.Builder
	b.WriteString("token a a\ntoken b b\nlayout w w\n")
	sorts := 1 + r.Intn(4)
	for n := range sorts {
		fmt.Fprintf(&b, "sort s%d\n", n)
	}
	for n := range 1 + r.Intn(10) {
		fmt.Fprintf(&b, "rule s%d %d R%d =", r.Intn(sorts), r.level(), n)
		for range r.Intn(4) {
			switch r.Intn(6) {
			case 0:
				b.WriteString([]string{" a", " b", " w"}[r.Intn(3)])
			case 1:
				b.WriteString([]string{" 'x", " 'y"}[r.Intn(2)])
			default:
				fmt.Fprintf(&b, " s%d:%d", r.Intn(sorts), r.level())
			}
		}
		b.WriteString("\n")
	}
	if r.Intn(3) == 0 {
		fmt.Fprintf(&b, "bracket s%d '( ')\n", r.Intn(sorts))
	}
	return b.String()
}

// level is a level, most often a low one.
func (r maker) level() int {
	return []int{0, 0, 0, 1, 2, 9}[r.Intn(6)]
}

// P12.1, P12.2: grammars by chance, against the chapter's words.
func TestModel(t *testing.T) {
	r := maker{rand.New(rand.NewSource(12))}
	for range 3000 {
		text := r.text()
		g, _, _ := gram.Parse(text)
		s := setsOf(t, text)
		m := modelOf(g)
		if !slices.Equal(s.Places(), m.places) || !reflect.DeepEqual(s.Productions(), m.productions) || s.End() != m.end {
			t.Fatalf("of %q: %v, %v, %d, not %v", text, s.Places(), s.Productions(), s.End(), m)
		}
		for n := range m.places {
			m.check(t, text, s, n)
		}
		for range 10 {
			var l []sets.Symbol
			for range r.Intn(4) {
				l = append(l, []sets.Symbol{place(r.Intn(len(m.places)+2) - 1), place(r.Intn(len(m.places))), class(r.Intn(m.end+3) - 1)}[r.Intn(3)])
			}
			then := r.Intn(m.end+3) - 1
			if got, want := s.Begin(l, then), m.begin(l, then); !slices.Equal(got, want) {
				t.Fatalf("Begin(%v, %d) of %q: %v, not %v", l, then, text, got, want)
			}
		}
	}
}

// check holds what is told of a place against the model.
func (m *model) check(t *testing.T, text string, s *sets.Sets, n int) {
	t.Helper()
	first := m.classes(func(c int) bool { return m.first[[2]int{n, c}] })
	follow := m.classes(func(c int) bool { return m.follow[[2]int{n, c}] })
	if s.Nullable(n) != m.empty[n] || !slices.Equal(s.First(n), first) || !slices.Equal(s.Follow(n), follow) {
		t.Fatalf("place %d of %q: %v, %v, %v, not %v, %v, %v", n, text, s.Nullable(n), s.First(n), s.Follow(n), m.empty[n], first, follow)
	}
	var of []int
	for i, p := range m.productions {
		if p.Place == n {
			of = append(of, i)
		}
	}
	if !slices.Equal(s.Of(n), of) {
		t.Fatalf("Of(%d) of %q: %v, not %v", n, text, s.Of(n), of)
	}
}
