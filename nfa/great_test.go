package nfa_test

import (
	"slices"
	"strings"
	"testing"

	"frisket/api"
	"frisket/nfa"
	"frisket/regex"
)

const most = 2000 // positions

// P6.1: as many positions as may be, of which each may stand behind very many.
func TestManyPositions(t *testing.T) {
	a := setOf("a")
	perhaps := regex.Or(a, regex.Empty())
	left := a // the first one is deepest
	nested := regex.Star(a)
	for range most - 1 {
		left = regex.Or(left, a)
		nested = regex.Star(regex.Or(a, nested))
	}
	from0 := func(int) []int { return upTo(0, most) }
	rest := func(p int) []int { return upTo(p+1, most) }
	none := func(int) []int { return nil }
	for _, c := range []struct {
		name        string
		n           *regex.Node
		first, last []int
		follow      func(p int) []int
		empty       bool
	}{
		{"alternatives", regex.Or(many(a, most)...), upTo(0, most), upTo(0, most), none, false},
		{"alternatives, any number of times", regex.Star(regex.Or(many(a, most)...)), upTo(0, most), upTo(0, most), from0, true},
		{"alternatives from the left", regex.Star(left), upTo(0, most), upTo(0, most), from0, true},
		{"each perhaps", regex.Cat(many(perhaps, most)...), upTo(0, most), upTo(0, most), rest, true},
		{"each perhaps, any number of times", regex.Star(regex.Cat(many(perhaps, most)...)), upTo(0, most), upTo(0, most), from0, true},
		{"stars in stars", nested, upTo(0, most), upTo(0, most), from0, true},
		{"a row", regex.Cat(many(a, most)...), upTo(0, 1), upTo(most-1, most), func(p int) []int { return upTo(p+1, min(p+2, most)) }, false},
	} {
		m := machine(t, c.n)
		if !slices.Equal(m.First(0), c.first) || !slices.Equal(m.Last(0), c.last) || m.Empty(0) != c.empty || m.Len() != most {
			t.Errorf("%s: %d first, %d last, %v, %d", c.name, len(m.First(0)), len(m.Last(0)), m.Empty(0), m.Len())
		}
		for p := range most {
			if got := m.Follow(p); !slices.Equal(got, c.follow(p)) {
				t.Fatalf("%s: %d behind %d", c.name, len(got), p)
			}
		}
	}
	m := machine(t, regex.Cat(many(perhaps, most)...))
	if got := m.Run(strings.Repeat("a", most)); len(got) != 1 {
		t.Errorf("Run of %d: %v", most, got)
	}
	if got := m.Run(strings.Repeat("a", most+1)); len(got) != 0 {
		t.Errorf("Run of %d: %v", most+1, got)
	}
}

// P6.1: more places than can be counted, of which none has a position, or all have one.
func TestUncounted(t *testing.T) {
	for _, join := range []func(...*regex.Node) *regex.Node{regex.Cat, regex.Or} {
		set, nothing := setOf("a"), regex.Empty()
		for range 90 {
			set, nothing = join(set, set), join(nothing, nothing)
		}
		if m, err := nfa.New(set); m != nil || err != api.ErrLong {
			t.Errorf("Sets: %d", err)
		}
		if m, err := nfa.New(nothing, set, nil); m != nil || err != api.ErrArg {
			t.Errorf("Sets, and nil: %d", err)
		}
		m := machine(t, nothing, join(nothing, setOf("a"), nothing), regex.Star(nothing))
		if m.Len() != 1 || m.Rules() != 3 || !m.Empty(0) || !m.Empty(2) || m.Rule(0) != 1 || m.First(0) != nil {
			t.Errorf("nothing: %d positions, %d expressions", m.Len(), m.Rules())
		}
		if got := m.Run("a"); !slices.Equal(got, []int{1}) {
			t.Errorf("nothing: Run %v", got)
		}
	}
}

// Every call ends: nodes that stand deep in one another, in many places.
func TestDeep(t *testing.T) {
	const deep = 1 << 18
	star, perhaps, beside := setOf("a"), setOf("b"), setOf("c")
	for range deep {
		star = regex.Star(star)
		perhaps = regex.Or(regex.Empty(), perhaps)
		beside = regex.Cat(beside, regex.Empty())
	}
	m := machine(t, star, perhaps, beside)
	for rule, follow := range [][]int{{0}, nil, nil} {
		if !slices.Equal(m.First(rule), []int{rule}) || !slices.Equal(m.Last(rule), []int{rule}) || !slices.Equal(m.Follow(rule), follow) {
			t.Errorf("expression %d: %v, %v, %v", rule, m.First(rule), m.Last(rule), m.Follow(rule))
		}
		if m.Empty(rule) != (rule < 2) {
			t.Errorf("expression %d: Empty %v", rule, m.Empty(rule))
		}
	}
	m = machine(t, regex.Cat(many(star, most)...))
	if !slices.Equal(m.First(0), upTo(0, most)) || !slices.Equal(m.Follow(1000), upTo(1000, most)) || !m.Empty(0) {
		t.Errorf("in many places: %d first, %d behind 1000", len(m.First(0)), len(m.Follow(1000)))
	}
}
