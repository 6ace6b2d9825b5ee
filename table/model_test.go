package table_test

import (
	"fmt"
	"maps"
	"math/rand"
	"reflect"
	"slices"
	"strings"
	"testing"

	"frisket/api"
	"frisket/gram"
	"frisket/items"
	"frisket/sets"
	"frisket/table"
)

// model is what the chapter's words say of a maker's table, one by one.
type model struct {
	*items.Maker
	productions []sets.Production
	states      [][]items.Item
}

// modelOf is the model of a maker; false, if it has many states.
func modelOf(m *items.Maker) (model, bool) {
	w := model{m, m.Productions(), [][]items.Item{m.Start()}}
	for n := 0; n < len(w.states) && n < 60; n++ {
		for class := range m.End() + 1 {
			w.meet(n, sets.Symbol{N: class})
		}
		for place := range m.Places() {
			w.meet(n, sets.Symbol{Place: true, N: place})
		}
	}
	return w, len(w.states) <= 60
}

// meet puts down the state to which one goes on, if it is a new one.
func (w *model) meet(n int, y sets.Symbol) {
	if to, ok := w.lead(n, y); ok && to < 0 {
		w.states = append(w.states, w.Go(w.states[n], y))
	}
}

// lead is the state to which one goes on, if there is anything; -1 of one that isn't met.
func (w *model) lead(n int, y sets.Symbol) (int, bool) {
	l := w.Go(w.states[n], y)
	return slices.IndexFunc(w.states, func(m []items.Item) bool { return slices.Equal(l, m) }), len(l) > 0
}

// may is all that may be done.
func (w *model) may(n, class int) []table.Act {
	var l []table.Act
	if to, ok := w.lead(n, sets.Symbol{N: class}); ok {
		l = append(l, shift(to))
	}
	for p, of := range w.productions {
		if slices.Contains(w.states[n], item(p, len(of.Symbols), class)) {
			l = append(l, reduce(p))
		}
	}
	if class == w.End() && slices.Contains(w.states[n], item(-1, 1, class)) {
		l = append(l, accept)
	}
	return l
}

// check holds all that a table tells against the model.
func (w *model) check(t *testing.T, text string, x *table.Table) {
	t.Helper()
	if x.States() != len(w.states) {
		t.Fatalf("%d states of %q, not %d", x.States(), text, len(w.states))
	}
	var clashes []table.Clash
	for n, l := range w.states {
		if got := x.Items(n); !slices.Equal(got, l) {
			t.Fatalf("Items(%d) of %q: %v, not %v", n, text, got, l)
		}
		var expected []int
		for class := range w.End() + 1 {
			may := append(w.may(n, class), fail)
			if got := x.Do(n, class); got != may[0] {
				t.Fatalf("Do(%d, %d) of %q: %v, not %v", n, class, text, got, may[0])
			}
			if len(may) > 1 {
				expected = append(expected, class)
			}
			if len(may) > 2 {
				clashes = append(clashes, table.Clash{State: n, Class: class, Acts: may[:len(may)-1]})
			}
		}
		if got := x.Expected(n); !slices.Equal(got, expected) {
			t.Fatalf("Expected(%d) of %q: %v, not %v", n, text, got, expected)
		}
		w.checkPlaces(t, text, x, n)
	}
	if got := x.Clashes(); len(got) != len(clashes) || len(got) > 0 && !reflect.DeepEqual(got, clashes) {
		t.Fatalf("Clashes of %q: %v, not %v", text, got, clashes)
	}
}

// checkPlaces holds where places lead from a state against the model.
func (w *model) checkPlaces(t *testing.T, text string, x *table.Table, n int) {
	t.Helper()
	for place := range w.Places() {
		to, is := w.lead(n, sets.Symbol{Place: true, N: place})
		if !is {
			to = 0
		}
		if got, ok := x.Go(n, place); got != to || ok != is {
			t.Fatalf("Go(%d, %d) of %q: %d, %v, not %d, %v", n, place, text, got, ok, to, is)
		}
	}
}

// random makes grammars by chance.
type random struct{ *rand.Rand }

// text is a grammar's text, of three classes, few sorts and rules with few parts.
func (r random) text() string {
	var b strings.Builder
	b.WriteString("token a a\ntoken b b\n")
	sorts := 1 + r.Intn(3)
	for n := range sorts {
		fmt.Fprintf(&b, "sort s%d\n", n)
	}
	for n := range 1 + r.Intn(6) {
		fmt.Fprintf(&b, "rule s%d %d R%d =", r.Intn(sorts), r.Intn(3), n)
		for range r.Intn(4) {
			if r.Intn(2) == 0 {
				fmt.Fprintf(&b, " s%d:%d", r.Intn(sorts), r.Intn(3))
			} else {
				b.WriteString([]string{" a", " b", " 'x"}[r.Intn(3)])
			}
		}
		b.WriteString("\n")
	}
	if r.Intn(4) == 0 {
		fmt.Fprintf(&b, "bracket s%d '( ')\n", r.Intn(sorts))
	}
	return b.String()
}

// maker is the maker of a grammar by chance, and its text.
func (r random) maker() (*items.Maker, string) {
	for {
		text := r.text()
		g, _, _ := gram.Parse(text)
		if m, _, err := items.New(g); err == api.OK {
			return m, text
		}
	}
}

// P15.1: grammars by chance, against the chapter's words.
func TestModel(t *testing.T) {
	r := random{rand.New(rand.NewSource(15))}
	checked, clashing := 0, 0
	for range 1500 {
		m, text := r.maker()
		x, err := table.New(m)
		if x == nil || err != api.OK {
			t.Fatalf("New of %q: %d", text, err)
		}
		w, few := modelOf(m)
		if !few {
			continue
		}
		w.check(t, text, x)
		checked++
		if len(x.Clashes()) > 0 {
			clashing++
		}
	}
	if checked < 1000 || clashing < 200 || checked-clashing < 200 {
		t.Errorf("%d grammars were checked, %d of them with clashes", checked, clashing)
	}
}

// counter counts the trees of a text: of each place, from a class on, up to another, 2 of all that are more.
type counter struct {
	productions []sets.Production
	text        []int
	trees       map[[3]int]int
}

// count is how many trees the text has, 2 of more: those of one storey, then of two, till no more come.
func (c *counter) count() int {
	for more := true; more; {
		higher := map[[3]int]int{}
		for _, p := range c.productions {
			for from := range len(c.text) + 1 {
				for to := from; to <= len(c.text); to++ {
					at := [3]int{p.Place, from, to}
					higher[at] = min(2, higher[at]+c.of(p.Symbols, from, to))
				}
			}
		}
		more = !maps.Equal(higher, c.trees)
		c.trees = higher
	}
	return c.trees[[3]int{0, 0, len(c.text)}]
}

// of is how many rows of trees symbols have.
func (c *counter) of(l []sets.Symbol, from, to int) int {
	if len(l) == 0 {
		return max(0, 1-(to-from))
	}
	if !l[0].Place {
		if from == to || c.text[from] != l[0].N {
			return 0
		}
		return c.of(l[1:], from+1, to)
	}
	sum := 0
	for at := from; at <= to; at++ {
		if n := c.trees[[3]int{l[0].N, from, at}]; n > 0 {
			sum += n * c.of(l[1:], at, to)
		}
	}
	return min(2, sum)
}

// takes tells whether a text is a sentence, as the table says what is done.
func takes(t *testing.T, x *table.Table, text []int) bool {
	t.Helper()
	productions := x.Productions()
	text = append(slices.Clone(text), x.End())
	stack := []int{0}
	for range 1000 {
		top := stack[len(stack)-1]
		switch a := x.Do(top, text[0]); a.Kind {
		case table.Fail:
			return false
		case table.Accept:
			return true
		case table.Shift:
			stack, text = append(stack, a.N), text[1:]
		case table.Reduce:
			p := productions[a.N]
			stack = stack[:len(stack)-len(p.Symbols)]
			to, ok := x.Go(stack[len(stack)-1], p.Place)
			if !ok {
				t.Fatalf("no way on from %d by place %d", stack[len(stack)-1], p.Place)
			}
			stack = append(stack, to)
		}
	}
	t.Fatal("it doesn't end")
	return false
}

// texts is all texts of classes up to a length.
func texts(classes, length int) [][]int {
	all := [][]int{nil}
	for n := 0; n < len(all); n++ {
		for class := 0; class < classes && len(all[n]) < length; class++ {
			all = append(all, append(slices.Clone(all[n]), class))
		}
	}
	return all
}

// P15.2: without clashes a text has one tree at most, and just those that have one are taken.
func TestTrees(t *testing.T) {
	r := random{rand.New(rand.NewSource(152))}
	taken, more := 0, 0
	for range 600 {
		m, grammar := r.maker()
		x, err := table.New(m)
		if err != api.OK {
			t.Fatalf("New of %q: %d", grammar, err)
		}
		clashes := len(x.Clashes()) > 0
		for _, text := range texts(x.End(), 3) {
			c := counter{productions: x.Productions(), text: text}
			n := c.count()
			if clashes {
				more += n / 2
				continue
			}
			if n > 1 || takes(t, x, text) != (n == 1) {
				t.Fatalf("of %q: %v has %d trees", grammar, text, n)
			}
			taken += n
		}
	}
	if taken < 300 || more < 100 {
		t.Errorf("%d texts were taken, %d have more trees", taken, more)
	}
}
