package items_test

import (
	"fmt"
	"math/rand"
	"slices"
	"strings"
	"testing"

	"frisket/api"
	"frisket/gram"
	"frisket/items"
	"frisket/sets"
	"frisket/useful"
)

// model is what the chapter's words say of a grammar's items, one by one.
type model struct {
	*sets.Sets
	productions []sets.Production
}

// symbols is a production's symbols, and whether there is such a production.
func (m model) symbols(p int) ([]sets.Symbol, bool) {
	if p == -1 {
		return list(place(0)), true
	}
	if p < 0 || p >= len(m.productions) {
		return nil, false
	}
	return m.productions[p].Symbols, true
}

// ahead is the symbol ahead in an item, those behind it, and whether there are any; and whether there is such an item.
func (m model) ahead(i items.Item) (y sets.Symbol, rest []sets.Symbol, more, ok bool) {
	l, ok := m.symbols(i.Prod)
	if !ok || i.Dot < 0 || i.Dot > len(l) || i.Then < 0 || i.Then > m.End() {
		return y, nil, false, false
	}
	if i.Dot == len(l) {
		return y, nil, false, true
	}
	return l[i.Dot], l[i.Dot+1:], true, true
}

// closure is a closure's items.
func (m model) closure(l []items.Item) []items.Item {
	met := map[items.Item]bool{}
	for l = slices.Clone(l); len(l) > 0; l = l[1:] {
		y, rest, more, ok := m.ahead(l[0])
		if !ok || met[l[0]] {
			continue
		}
		met[l[0]] = true
		for p, of := range m.productions {
			if more && y == place(of.Place) {
				for _, c := range m.Begin(rest, l[0].Then) {
					l = append(l, items.Item{Prod: p, Then: c})
				}
			}
		}
	}
	return order(met)
}

// step is what Go tells.
func (m model) step(l []items.Item, y sets.Symbol) []items.Item {
	var behind []items.Item
	for _, i := range l {
		if ahead, _, more, _ := m.ahead(i); more && ahead == y {
			i.Dot++
			behind = append(behind, i)
		}
	}
	return m.closure(behind)
}

// core is what Core tells.
func (m model) core(l []items.Item) []items.Item {
	met := map[items.Item]bool{}
	for _, i := range l {
		i.Then = -1
		met[i] = true
	}
	return order(met)
}

// order is what was met, sorted.
func order(met map[items.Item]bool) []items.Item {
	var l []items.Item
	for i := range met {
		l = append(l, i)
	}
	slices.SortFunc(l, func(a, b items.Item) int {
		return slices.Compare([]int{a.Prod, a.Dot, a.Then}, []int{b.Prod, b.Dot, b.Then})
	})
	return l
}

// random makes grammars and items by chance.
type random struct{ *rand.Rand }

// text is a grammar's text, of few classes and sorts, whose rules have up to four parts.
func (r random) text() string {
	var b strings.Builder
	b.WriteString("token a a\ntoken b b\nlayout w w\n")
	sorts := 1 + r.Intn(4)
	for n := range sorts {
		fmt.Fprintf(&b, "sort s%d\n", n)
	}
	for n := range 1 + r.Intn(9) {
		fmt.Fprintf(&b, "rule s%d %d R%d =", r.Intn(sorts), r.Intn(3), n)
		for range r.Intn(5) {
			switch r.Intn(6) {
			case 0:
				b.WriteString([]string{" a", " b", " w"}[r.Intn(3)])
			case 1:
				b.WriteString([]string{" 'x", " 'y"}[r.Intn(2)])
			default:
				fmt.Fprintf(&b, " s%d:%d", r.Intn(sorts), r.Intn(3))
			}
		}
		b.WriteString("\n")
	}
	if r.Intn(3) == 0 {
		fmt.Fprintf(&b, "bracket s%d '( ')\n", r.Intn(sorts))
	}
	return b.String()
}

// item is an item, one now and then that there can't be.
func (r random) item(m model) items.Item {
	p := r.Intn(len(m.productions)+3) - 2
	l, _ := m.symbols(p)
	return items.Item{Prod: p, Dot: r.Intn(len(l)+3) - 1, Then: r.Intn(m.End()+3) - 1}
}

// symbol is a symbol, one now and then that there isn't.
func (r random) symbol(m model) sets.Symbol {
	if r.Intn(2) == 0 {
		return place(r.Intn(len(m.Places())+2) - 1)
	}
	return class(r.Intn(m.End()+3) - 1)
}

// P14.1: grammars by chance, against the chapter's words.
func TestModel(t *testing.T) {
	r := random{rand.New(rand.NewSource(14))}
	made := 0
	for range 2500 {
		text := r.text()
		g, _, _ := gram.Parse(text)
		m, n, err := items.New(g)
		if at, want := useful.Check(g); err != want || n != at || (m == nil) != (err != api.OK) {
			t.Fatalf("New of %q: %v, %d, %d, not %d, %d", text, m, n, err, at, want)
		}
		if err != api.OK {
			continue
		}
		made++
		s, _ := sets.New(g)
		want := model{s, s.Productions()}
		l := m.Start()
		if whole := want.closure([]items.Item{{Prod: -1, Then: s.End()}}); !slices.Equal(l, whole) {
			t.Fatalf("Start of %q: %v, not %v", text, l, whole)
		}
		for range 4 {
			l = want.walk(t, text, m, l, r)
		}
		for range 5 {
			l = nil
			for range r.Intn(5) {
				l = append(l, r.item(want))
			}
			want.check(t, text, m, l, r.symbol(want))
		}
	}
	if made < 500 {
		t.Errorf("of all grammars only %d had a maker", made)
	}
}

// walk holds what is told of a state against the model, and goes on by a symbol that stands ahead in it, if there is one.
func (m model) walk(t *testing.T, text string, got *items.Maker, l []items.Item, r random) []items.Item {
	t.Helper()
	y := r.symbol(m)
	for _, n := range r.Perm(len(l)) {
		if ahead, _, more, _ := m.ahead(l[n]); more {
			y = ahead
		}
	}
	m.check(t, text, got, l, y)
	return m.step(l, y)
}

// check holds what is told of some items, and a symbol, against the model.
func (m model) check(t *testing.T, text string, got *items.Maker, l []items.Item, y sets.Symbol) {
	t.Helper()
	if c, want := got.Closure(l...), m.closure(l); !slices.Equal(c, want) {
		t.Fatalf("Closure(%v) of %q: %v, not %v", l, text, c, want)
	}
	if c, want := got.Go(l, y), m.step(l, y); !slices.Equal(c, want) {
		t.Fatalf("Go(%v, %v) of %q: %v, not %v", l, y, text, c, want)
	}
	if c, want := got.Core(l), m.core(l); !slices.Equal(c, want) {
		t.Fatalf("Core(%v) of %q: %v, not %v", l, text, c, want)
	}
	for _, i := range l {
		ahead, ok := got.Ahead(i)
		if want, _, more, _ := m.ahead(i); ahead != want || ok != more {
			t.Fatalf("Ahead(%v) of %q: %v, %v, not %v, %v", i, text, ahead, ok, want, more)
		}
	}
}
