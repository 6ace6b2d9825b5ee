package items_test

import (
	"fmt"
	"math"
	"slices"
	"strings"
	"testing"

	"frisket/api"
	"frisket/gram"
	"frisket/items"
	"frisket/sets"
)

// nest is s of a s b or nothing: a is class 0, b 1, the end 2; the productions are 0 and 1, the place 0.
const nest = "token a a\ntoken b b\nsort s\nrule s 0 A = a s:0 b\nrule s 0 E =\n"

// void has a place that is void, 2: those ahead of it aren't.
const void = "token a a\nsort s\nsort x\nsort y\nrule s 0 S = x:0 a\nrule s 0 T = y:0\nrule x 0 X = a\nrule y 0 Y = a y:0\n"

// through has places that may be empty: a b c are its classes 0 to 2, the end is 3; place 1 (x) may be empty, place 2 (y) not; productions: 0 S, 1 E, 2 X, 3 N, 4 Y.
const through = "token a a\ntoken b b\ntoken c c\nsort s\nsort x\nsort y\nrule s 0 S = s:0 x:0 y:0 x:0\nrule s 0 E =\nrule x 0 X = a\nrule x 0 N =\nrule y 0 Y = b\n"

// item is an item.
func item(prod, dot, then int) items.Item {
	return items.Item{Prod: prod, Dot: dot, Then: then}
}

// all is some items.
func all(l ...items.Item) []items.Item {
	return l
}

// place is a symbol that is one.
func place(n int) sets.Symbol {
	return sets.Symbol{Place: true, N: n}
}

// class is a symbol that is one.
func class(n int) sets.Symbol {
	return sets.Symbol{N: n}
}

// list is some symbols.
func list(l ...sets.Symbol) []sets.Symbol {
	return l
}

// makerOf is the maker of a grammar's text.
func makerOf(t testing.TB, text string) *items.Maker {
	t.Helper()
	g, n, err := gram.Parse(text)
	if err != api.OK {
		t.Fatalf("Parse(%.200q): %d, %d", text, n, err)
	}
	m, n, err := items.New(g)
	if m == nil || n != 0 || err != api.OK {
		t.Fatalf("New(%.200q): %v, %d, %d", text, m, n, err)
	}
	return m
}

// P14.1: of no grammar, or one with a void place, there is no maker.
func TestNew(t *testing.T) {
	if m, n, err := items.New(nil); m != nil || n != 0 || err != api.ErrArg {
		t.Errorf("New(nil): %v, %d, %d", m, n, err)
	}
	g, _, _ := gram.Parse(void)
	if m, n, err := items.New(g); m != nil || n != 2 || err != api.ErrVoid {
		t.Errorf("of a void place: %v, %d, %d", m, n, err)
	}
	g, _, _ = gram.Parse("token a a\nsort s\nrule s 0 A = a s:0\n")
	if m, n, err := items.New(g); m != nil || n != 0 || err != api.ErrVoid {
		t.Errorf("of a void beginning: %v, %d, %d", m, n, err)
	}
}

// P14.1: a maker tells what the sets tell.
func TestSets(t *testing.T) {
	m := makerOf(t, nest)
	if m.End() != 2 || len(m.Places()) != 1 || len(m.Productions()) != 2 || !m.Nullable(0) {
		t.Errorf("End: %d, Places: %v, Productions: %v", m.End(), m.Places(), m.Productions())
	}
}

// P14.1: the whole alone stands at the beginning, and what it brings.
func TestStart(t *testing.T) {
	if got := makerOf(t, nest).Start(); !slices.Equal(got, all(item(-1, 0, 2), item(0, 0, 2), item(1, 0, 2))) {
		t.Errorf("Start: %v", got)
	}
	want := all(item(-1, 0, 3), item(0, 0, 0), item(0, 0, 1), item(0, 0, 3), item(1, 0, 0), item(1, 0, 1), item(1, 0, 3))
	if got := makerOf(t, through).Start(); !slices.Equal(got, want) {
		t.Errorf("Start: %v", got)
	}
}

// P14.1: closures of items that there are.
func TestClosure(t *testing.T) {
	m := makerOf(t, through)
	for _, c := range []struct{ l, want []items.Item }{
		{nil, nil},
		{all(item(0, 4, 1)), all(item(0, 4, 1))},
		{all(item(1, 0, 2)), all(item(1, 0, 2))},
		{all(item(2, 0, 1)), all(item(2, 0, 1))},
		{all(item(2, 1, 1)), all(item(2, 1, 1))},
		{all(item(-1, 1, 3)), all(item(-1, 1, 3))},
		{all(item(0, 1, 3)), all(item(0, 1, 3), item(2, 0, 1), item(3, 0, 1))},
		{all(item(0, 2, 3)), all(item(0, 2, 3), item(4, 0, 0), item(4, 0, 3))},
		{all(item(0, 2, 2)), all(item(0, 2, 2), item(4, 0, 0), item(4, 0, 2))},
		{all(item(0, 2, 0)), all(item(0, 2, 0), item(4, 0, 0))},
		{all(item(0, 3, 3)), all(item(0, 3, 3), item(2, 0, 3), item(3, 0, 3))},
		{all(item(0, 3, 3), item(2, 0, 3)), all(item(0, 3, 3), item(2, 0, 3), item(3, 0, 3))},
		{all(item(0, 3, 3), item(0, 1, 3)), all(item(0, 1, 3), item(0, 3, 3), item(2, 0, 1), item(2, 0, 3), item(3, 0, 1), item(3, 0, 3))},
		{all(item(4, 1, 3), item(2, 1, 2), item(4, 1, 0), item(2, 1, 2), item(4, 0, 3)), all(item(2, 1, 2), item(4, 0, 3), item(4, 1, 0), item(4, 1, 3))},
		{all(item(-1, 0, 2)), all(item(-1, 0, 2), item(0, 0, 0), item(0, 0, 1), item(0, 0, 2), item(1, 0, 0), item(1, 0, 1), item(1, 0, 2))},
	} {
		if got := m.Closure(c.l...); !slices.Equal(got, c.want) {
			t.Errorf("Closure(%v): %v, not %v", c.l, got, c.want)
		}
	}
}

// P14.1: what there is no production, dot or class of counts for nothing.
func TestNoItem(t *testing.T) {
	m := makerOf(t, through)
	there := item(2, 0, 3)
	for _, i := range []items.Item{
		item(-2, 0, 3), item(5, 0, 3), item(math.MaxInt, 0, 3), item(math.MinInt, 0, 3),
		item(2, -1, 3), item(2, 2, 3), item(3, 1, 3), item(-1, 2, 3), item(2, math.MaxInt, 3), item(2, math.MinInt, 3),
		item(2, 0, -1), item(2, 0, 4), item(-1, 0, -1), item(-1, 0, 4), item(2, 0, 64), item(2, 0, math.MaxInt), item(2, 0, math.MinInt),
	} {
		if got := m.Closure(i); len(got) != 0 {
			t.Errorf("Closure(%v): %v", i, got)
		}
		if got := m.Closure(i, there, i); !slices.Equal(got, all(there)) {
			t.Errorf("Closure(%v, %v): %v", i, there, got)
		}
		for _, y := range list(class(0), place(0), class(3), sets.Symbol{}) {
			if got := m.Go(all(i), y); len(got) != 0 {
				t.Errorf("Go(%v, %v): %v", i, y, got)
			}
		}
		if got := m.Go(all(i, there), class(0)); !slices.Equal(got, all(item(2, 1, 3))) {
			t.Errorf("Go of %v, %v: %v", i, there, got)
		}
		if y, ok := m.Ahead(i); ok || y != (sets.Symbol{}) {
			t.Errorf("Ahead(%v): %v, %v", i, y, ok)
		}
	}
}

// P14.1: by classes and places one goes on; by what stands ahead nowhere to nothing.
func TestGo(t *testing.T) {
	m := makerOf(t, nest)
	start := m.Start()
	behind := all(item(0, 0, 1), item(0, 1, 2), item(1, 0, 1))
	deep := all(item(0, 0, 1), item(0, 1, 1), item(1, 0, 1))
	for _, c := range []struct {
		l    []items.Item
		y    sets.Symbol
		want []items.Item
	}{
		{start, place(0), all(item(-1, 1, 2))},
		{start, class(0), behind},
		{behind, class(0), deep},
		{deep, class(0), deep},
		{behind, place(0), all(item(0, 2, 2))},
		{all(item(0, 2, 2)), class(1), all(item(0, 3, 2))},
		{all(item(0, 2, 2), item(0, 2, 1), item(0, 2, 2)), class(1), all(item(0, 3, 1), item(0, 3, 2))},
		{all(item(0, 0, 2), item(0, 1, 2), item(1, 0, 2)), place(0), all(item(0, 2, 2))},
		{nil, class(0), nil},
		{start, class(1), nil},
		{start, class(2), nil},
		{start, class(3), nil},
		{start, class(-1), nil},
		{start, place(1), nil},
		{start, place(-1), nil},
		{all(item(-1, 1, 2)), class(2), nil},
		{all(item(0, 3, 2)), class(1), nil},
	} {
		if got := m.Go(c.l, c.y); !slices.Equal(got, c.want) {
			t.Errorf("Go(%v, %v): %v, not %v", c.l, c.y, got, c.want)
		}
	}
}

// P14.1: what stands ahead, a class or a place; at the end nothing does.
func TestAhead(t *testing.T) {
	m := makerOf(t, nest)
	for _, c := range []struct {
		i    items.Item
		want sets.Symbol
		ok   bool
	}{
		{item(-1, 0, 2), place(0), true},
		{item(-1, 1, 2), sets.Symbol{}, false},
		{item(0, 0, 0), class(0), true},
		{item(0, 1, 1), place(0), true},
		{item(0, 2, 2), class(1), true},
		{item(0, 3, 2), sets.Symbol{}, false},
		{item(1, 0, 2), sets.Symbol{}, false},
	} {
		if got, ok := m.Ahead(c.i); got != c.want || ok != c.ok {
			t.Errorf("Ahead(%v): %v, %v", c.i, got, ok)
		}
	}
}

// P14.1: a core is the same items, whatever may stand behind them.
func TestCore(t *testing.T) {
	m := makerOf(t, nest)
	for _, c := range []struct{ l, want []items.Item }{
		{nil, nil},
		{m.Start(), all(item(-1, 0, -1), item(0, 0, -1), item(1, 0, -1))},
		{all(item(1, 0, 2), item(0, 3, 1), item(0, 1, 2), item(0, 3, 0), item(0, 1, 2)), all(item(0, 1, -1), item(0, 3, -1), item(1, 0, -1))},
		{all(item(1, 0, -1), item(0, 2, -1)), all(item(0, 2, -1), item(1, 0, -1))},
	} {
		if got := m.Core(c.l); !slices.Equal(got, c.want) {
			t.Errorf("Core(%v): %v, not %v", c.l, got, c.want)
		}
	}
}

// P14.1: a nil maker tells nothing; nor do others panic.
func TestNil(t *testing.T) {
	var none *items.Maker
	l := all(item(-1, 0, 0), item(0, 0, 0))
	if y, ok := none.Ahead(l[0]); ok || y != (sets.Symbol{}) {
		t.Errorf("Ahead: %v, %v", y, ok)
	}
	if none.Start() != nil || none.Closure(l...) != nil || none.Go(l, place(0)) != nil || none.Core(l) != nil {
		t.Error("a nil maker tells something")
	}
	many, few := makerOf(t, through), makerOf(t, nest)
	s := few.Sets
	few.Sets, many.Sets = many.Sets, s
	for _, m := range []*items.Maker{{}, {Sets: s}, few, many} {
		l := append(m.Start(), l...)
		m.Closure(l...)
		m.Core(l)
		for n := -1; n < 5; n++ {
			m.Go(l, place(n))
			m.Go(l, class(n))
			m.Ahead(item(n, 0, 0))
		}
	}
	none.Closure()
	(&items.Maker{}).Closure(l...)
}

// What is answered is new memory: what is done to it, no later call tells. What is handed in stays, its spare room too.
func TestNewMemory(t *testing.T) {
	m := makerOf(t, through)
	want := fmt.Sprint(m.Start(), m.Closure(item(0, 2, 3)), m.Go(m.Start(), place(0)), m.Core(m.Start()))
	for _, l := range [][]items.Item{m.Start(), m.Closure(item(0, 2, 3)), m.Go(m.Start(), place(0)), m.Core(m.Start())} {
		clear(append(l, item(9, 9, 9)))
		clear(l)
	}
	if got := fmt.Sprint(m.Start(), m.Closure(item(0, 2, 3)), m.Go(m.Start(), place(0)), m.Core(m.Start())); got != want {
		t.Errorf("changed: %s, not %s", got, want)
	}
	in := all(item(4, 0, 3), item(0, 2, 3), item(4, 0, 3), item(2, 0, 1), item(7, 7, 7))
	before := slices.Clone(in)
	m.Closure(in[:3]...)
	m.Go(in[:3], class(1))
	m.Core(in[:3])
	if !slices.Equal(in, before) {
		t.Errorf("what was handed in is %v", in)
	}
}

// As many classes, places and productions as there can be: closures as great as that are made soon, and all of them is there.
func TestMany(t *testing.T) {
	m := makerOf(t, many())
	places, classes := len(m.Places()), m.End()
	if places != api.MaxSorts*10 || classes != api.MaxTokens {
		t.Fatalf("%d places, %d classes", places, classes)
	}
	start := m.Start()
	if want := 1 + 3*api.MaxSorts*(classes+1); len(start) != want {
		t.Errorf("%d items at the beginning, not %d", len(start), want)
	}
	for n := range classes {
		if l := m.Go(start, class(n)); len(l) != classes+1 {
			t.Errorf("by class %d: %d items", n, len(l))
		}
	}
	var want, given []items.Item
	for n, p := range m.Productions() {
		for dot := range len(p.Symbols) + 1 {
			for then := range classes + 1 {
				want = append(want, item(n, dot, then))
				if dot > 0 {
					given = append(given, item(n, dot, then))
				}
			}
		}
	}
	if got := m.Closure(given...); !slices.Equal(got, want) {
		t.Errorf("all there can be: %d items, not %d", len(got), len(want))
	}
	if got := m.Core(want); len(got)*(classes+1) != len(want) {
		t.Errorf("a core of %d items", len(got))
	}
}

// many is a grammar whose places are all sorts from all levels on: each sort leads to all of the next one, and may be empty, or one class.
func many() string {
	var text strings.Builder
	for n := range api.MaxTokens {
		fmt.Fprintf(&text, "token t%d %s\n", n, strings.Repeat("a", n+1))
	}
	for n := range api.MaxSorts {
		fmt.Fprintf(&text, "sort s%d\n", n)
	}
	for n := range api.MaxSorts {
		fmt.Fprintf(&text, "rule s%d 9 All%d =", n, n)
		for level := range 10 {
			fmt.Fprintf(&text, " s%d:%d", (n+1)%api.MaxSorts, level)
		}
		fmt.Fprintf(&text, "\nrule s%d 9 Some%d = t%d\nrule s%d 9 None%d =\n", n, n, n, n, n)
	}
	return text.String()
}
