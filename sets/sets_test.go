package sets_test

import (
	"fmt"
	"reflect"
	"slices"
	"strings"
	"testing"

	"frisket/api"
	"frisket/gram"
	"frisket/sets"
)

// sums is a grammar of sums: + * ( ) are its classes 0 to 3, num is 4, the end 5.
const sums = `token num [0-9]+
sort e
rule e 1 Add = e:1 '+ e:2
rule e 2 Mul = e:2 '* e:3
rule e 9 Num = num
bracket e '( ')
`

// blocks has places that may be empty: a b c ; are its classes 1, 2, 3, 0, the end is 4; x (sort 1) may be empty, y (sort 2) by two x, z (sort 3) not.
const blocks = `token a a
token b b
token c c
sort s
sort x
sort y
sort z
rule s 0 S = y:0 z:0 x:0
rule s 0 T = '; s:0
rule x 0 X =
rule x 0 A = a
rule y 0 Y = x:0 x:0
rule y 0 B = x:0 b y:0
rule z 0 C = c
`

// setsOf is the sets of a grammar's text.
func setsOf(t testing.TB, text string) *sets.Sets {
	t.Helper()
	g, n, err := gram.Parse(text)
	if err != api.OK {
		t.Fatalf("Parse(%.200q): %d, %d", text, n, err)
	}
	s, err := sets.New(g)
	if s == nil || err != api.OK {
		t.Fatalf("New(%.200q): %v, %d", text, s, err)
	}
	return s
}

// place is a symbol that is one.
func place(n int) sets.Symbol {
	return sets.Symbol{Place: true, N: n}
}

// class is a symbol that is one.
func class(n int) sets.Symbol {
	return sets.Symbol{N: n}
}

// list is some symbols.
func list(l ...sets.Symbol) []sets.Symbol {
	return l
}

// P12.1: places and productions, in the order in which they are met.
func TestOrder(t *testing.T) {
	s := setsOf(t, sums)
	if got, want := s.Places(), []sets.Place{{0, 0}, {0, 1}, {0, 2}, {0, 3}}; !slices.Equal(got, want) {
		t.Errorf("Places: %v", got)
	}
	add, mul := list(place(1), class(0), place(2)), list(place(2), class(1), place(3))
	num, bracket := list(class(4)), list(class(2), place(0), class(3))
	want := []sets.Production{
		{0, 0, add}, {0, 1, mul}, {0, 2, num}, {0, 3, bracket},
		{1, 0, add}, {1, 1, mul}, {1, 2, num}, {1, 3, bracket},
		{2, 1, mul}, {2, 2, num}, {2, 3, bracket},
		{3, 2, num}, {3, 3, bracket},
	}
	if got := s.Productions(); !reflect.DeepEqual(got, want) {
		t.Errorf("Productions: %v", got)
	}
	for n, want := range [][]int{{0, 1, 2, 3}, {4, 5, 6, 7}, {8, 9, 10}, {11, 12}} {
		if got := s.Of(n); !slices.Equal(got, want) {
			t.Errorf("Of(%d): %v", n, got)
		}
	}
	if got := s.End(); got != 5 {
		t.Errorf("End: %d", got)
	}
}

// P12.1: a place is met where its production's turn comes, not its sort's; a sort without rules of its level has no productions; what is never met is none.
func TestMet(t *testing.T) {
	s := setsOf(t, "sort s\nsort x\nsort y\nsort z\nrule y 3 Y = s:0 x:9\nrule s 5 S = y:2 x:1 y:2 s:6\nrule x 1 X = y:4 x:1\nrule z 0 Z = z:0\nrule s 0 N =\n")
	want := []sets.Place{{0, 0}, {2, 2}, {1, 1}, {0, 6}, {1, 9}, {2, 4}}
	if got := s.Places(); !slices.Equal(got, want) {
		t.Errorf("Places: %v", got)
	}
	productions := []sets.Production{
		{0, 1, list(place(1), place(2), place(1), place(3))}, {0, 4, nil},
		{1, 0, list(place(0), place(4))},
		{2, 2, list(place(5), place(2))},
	}
	if got := s.Productions(); !reflect.DeepEqual(got, productions) {
		t.Errorf("Productions: %v", got)
	}
	for n, want := range [][]int{{0, 1}, {2}, {3}, {}, {}, {}} {
		if got := s.Of(n); !slices.Equal(got, want) {
			t.Errorf("Of(%d): %v", n, got)
		}
	}
}

// P12.2: the chapter's example, and what follows its other places.
func TestSums(t *testing.T) {
	s := setsOf(t, sums)
	follow := [][]int{{3, 5}, {0}, {0, 1, 3, 5}, {0, 1, 3, 5}}
	for n := range s.Places() {
		if got := s.First(n); !slices.Equal(got, []int{2, 4}) {
			t.Errorf("First(%d): %v", n, got)
		}
		if got := s.Follow(n); !slices.Equal(got, follow[n]) {
			t.Errorf("Follow(%d): %v", n, got)
		}
		if s.Nullable(n) {
			t.Errorf("place %d may be empty", n)
		}
	}
}

// P12.2: places that may be empty let through what stands behind them, at both sides.
func TestEmpty(t *testing.T) {
	s := setsOf(t, blocks)
	if got, want := s.Places(), []sets.Place{{0, 0}, {2, 0}, {3, 0}, {1, 0}}; !slices.Equal(got, want) {
		t.Fatalf("Places: %v", got)
	}
	for n, want := range []struct {
		empty         bool
		first, follow []int
	}{
		{false, []int{0, 1, 2, 3}, []int{4}},
		{true, []int{1, 2}, []int{3}},
		{false, []int{3}, []int{1, 4}},
		{true, []int{1}, []int{1, 2, 3, 4}},
	} {
		if got := s.Nullable(n); got != want.empty {
			t.Errorf("Nullable(%d): %v", n, got)
		}
		if got := s.First(n); !slices.Equal(got, want.first) {
			t.Errorf("First(%d): %v", n, got)
		}
		if got := s.Follow(n); !slices.Equal(got, want.follow) {
			t.Errorf("Follow(%d): %v", n, got)
		}
	}
}

// P12.2: what is void begins, too, and lets nothing through.
func TestVoid(t *testing.T) {
	s := setsOf(t, "token a a\ntoken b b\nsort s\nsort v\nrule s 0 S = v:0 b\nrule s 0 E =\nrule v 0 A = a v:0\nrule v 0 B = v:0 b\n")
	if got := s.First(0); !s.Nullable(0) || !slices.Equal(got, []int{0}) {
		t.Errorf("of s: %v, %v", s.Nullable(0), got)
	}
	if got := s.First(1); s.Nullable(1) || !slices.Equal(got, []int{0}) {
		t.Errorf("of v: %v, %v", s.Nullable(1), got)
	}
	if got := s.Follow(1); !slices.Equal(got, []int{1}) {
		t.Errorf("Follow of v: %v", got)
	}
	alone := setsOf(t, "sort s\nsort v\nrule s 0 S = v:0 s:0\n")
	for n := range 2 {
		if alone.Nullable(n) || len(alone.First(n)) != 0 {
			t.Errorf("of place %d: %v, %v", n, alone.Nullable(n), alone.First(n))
		}
	}
	if !slices.Equal(alone.Follow(0), []int{0}) || len(alone.Follow(1)) != 0 {
		t.Errorf("Follow: %v, %v", alone.Follow(0), alone.Follow(1))
	}
}

// P12.1: Begin of symbols that are there, and of such as aren't.
func TestBegin(t *testing.T) {
	s := setsOf(t, blocks)
	for _, c := range []struct {
		l    []sets.Symbol
		then int
		want []int
	}{
		{nil, 0, []int{0}},
		{nil, 4, []int{4}},
		{nil, 5, nil},
		{nil, -1, nil},
		{list(place(3)), 4, []int{1, 4}},
		{list(place(3)), 0, []int{0, 1}},
		{list(place(3)), 1, []int{1}},
		{list(place(3)), 5, []int{1}},
		{list(place(3)), -1, []int{1}},
		{list(place(3), place(1)), 4, []int{1, 2, 4}},
		{list(place(3), class(3)), 4, []int{1, 3}},
		{list(place(3), class(3), class(0)), 4, []int{1, 3}},
		{list(class(2), place(3)), 4, []int{2}},
		{list(place(2)), 0, []int{3}},
		{list(place(0)), 4, []int{0, 1, 2, 3}},
		{list(class(4)), 0, []int{4}},
		{list(class(5)), 0, nil},
		{list(class(-1)), 0, nil},
		{list(place(4)), 0, nil},
		{list(place(-1)), 0, nil},
		{list(place(3), place(4), class(0)), 0, []int{1}},
		{list(place(3), class(64)), 0, []int{1}},
		{list(class(0), place(99)), 4, []int{0}},
		{list(place(1<<62), place(3)), 4, nil},
	} {
		if got := s.Begin(c.l, c.then); !slices.Equal(got, c.want) {
			t.Errorf("Begin(%v, %d): %v, not %v", c.l, c.then, got, c.want)
		}
	}
}

// P12.1: of no such place, nothing.
func TestNoPlace(t *testing.T) {
	s := setsOf(t, blocks)
	for _, n := range []int{-1, 4, 5, 1 << 62, -1 << 63} {
		if s.Of(n) != nil || s.Nullable(n) || s.First(n) != nil || s.Follow(n) != nil {
			t.Errorf("of place %d: %v, %v, %v, %v", n, s.Of(n), s.Nullable(n), s.First(n), s.Follow(n))
		}
	}
}

// P12.1: a nil grammar has no sets, and nil ones tell nothing; nor do others panic.
func TestNil(t *testing.T) {
	if s, err := sets.New(nil); s != nil || err != api.ErrArg {
		t.Errorf("New(nil): %v, %d", s, err)
	}
	var none *sets.Sets
	if none.Places() != nil || none.Productions() != nil || none.Of(0) != nil || none.End() != 0 || none.Nullable(0) || none.First(0) != nil || none.Follow(0) != nil {
		t.Error("nil sets tell something")
	}
	if none.Begin(nil, 0) != nil || none.Begin(list(class(0)), 0) != nil {
		t.Error("of nil sets something begins")
	}
	other, _ := sets.New(&gram.Grammar{})
	for _, s := range []*sets.Sets{{}, other} {
		s.Places()
		s.Productions()
		s.End()
		for n := -1; n < 2; n++ {
			s.Of(n)
			s.Nullable(n)
			s.First(n)
			s.Follow(n)
			s.Begin(list(place(n), class(n)), n)
		}
	}
}

// What is answered is new memory: what is done to it, no later call tells. What is handed in stays.
func TestNewMemory(t *testing.T) {
	s := setsOf(t, blocks)
	want := fmt.Sprint(s.Places(), s.Productions(), s.Of(1), s.First(0), s.Follow(3))
	s.Places()[0] = sets.Place{Sort: 9}
	l := s.Productions()
	l[0].Symbols[0] = class(9)
	l[1] = sets.Production{}
	s.Of(1)[0], s.First(0)[0], s.Follow(3)[0] = 9, 9, 9
	if got := fmt.Sprint(s.Places(), s.Productions(), s.Of(1), s.First(0), s.Follow(3)); got != want {
		t.Errorf("changed: %s, not %s", got, want)
	}
	in := list(place(3), class(3), place(1))
	s.Begin(in[:1], 0)
	if !slices.Equal(in, list(place(3), class(3), place(1))) {
		t.Errorf("Begin changed %v", in)
	}
	for i, p := range s.Productions() {
		_ = append(p.Symbols, class(9))
		if again := s.Productions(); !slices.Equal(again[i].Symbols, p.Symbols) {
			t.Errorf("production %d shares its symbols", i)
		}
	}
}

// As many classes as there can be: the last one, and the end behind it, are told as any other.
func TestManyClasses(t *testing.T) {
	var text strings.Builder
	for n := range api.MaxTokens {
		fmt.Fprintf(&text, "token t%d %s\n", n, strings.Repeat("a", n+1))
	}
	text.WriteString("sort s\nsort x\nrule s 0 S = x:0 x:0\n")
	for n := range api.MaxTokens {
		fmt.Fprintf(&text, "rule x %d X%d = t%d\n", n%10, n, n)
	}
	s := setsOf(t, text.String())
	var all []int
	for n := range api.MaxTokens {
		all = append(all, n)
	}
	if got := s.First(0); s.End() != api.MaxTokens || !slices.Equal(got, all) {
		t.Errorf("First: %v, the end is %d", got, s.End())
	}
	if got := s.Follow(1); !slices.Equal(got, append(all, s.End())) {
		t.Errorf("Follow: %v", got)
	}
	if got := s.Begin(nil, s.End()); !slices.Equal(got, []int{s.End()}) {
		t.Errorf("Begin: %v", got)
	}
}

// As many places as there can be: what the last ones are, all the others tell.
func TestManyPlaces(t *testing.T) {
	s := setsOf(t, chain())
	last := api.MaxSorts*10 - 1
	if got := len(s.Places()); got != last+1 {
		t.Fatalf("%d places", got)
	}
	for n := range last + 1 {
		if got := s.First(n); !s.Nullable(n) || !slices.Equal(got, []int{0}) {
			t.Fatalf("of place %d: %v, %v", n, s.Nullable(n), got)
		}
		if got := s.Follow(n); !slices.Equal(got, []int{0, 1}) {
			t.Fatalf("Follow(%d): %v", n, got)
		}
	}
}

// chain is a grammar whose places are all sorts from all levels on: each sort leads to all of the next one, the last one to all of the first, and it is a, or empty.
func chain() string {
	var text strings.Builder
	text.WriteString("token a a\n")
	for n := range api.MaxSorts {
		fmt.Fprintf(&text, "sort s%d\n", n)
	}
	for n := range api.MaxSorts {
		fmt.Fprintf(&text, "rule s%d 9 All%d =", n, n)
		for level := range 10 {
			fmt.Fprintf(&text, " s%d:%d", (n+1)%api.MaxSorts, level)
		}
		text.WriteString("\n")
	}
	fmt.Fprintf(&text, "rule s%d 9 Last = a\nrule s%d 9 None =\n", api.MaxSorts-1, api.MaxSorts-1)
	return text.String()
}
