package useful_test

import (
	"fmt"
	"math/rand"
	"slices"
	"strings"
	"testing"

	"frisket/api"
	"frisket/sets"
	"frisket/useful"
)

// deep is how long texts are followed in the model.
const deep = 40

// lengths is how long the texts are that each place derives, up to deep: bit n is set of length n.
func lengths(s *sets.Sets) []uint64 {
	of := make([]uint64, len(s.Places()))
	for more := true; more; {
		more = false
		for _, p := range s.Productions() {
			all := uint64(1)
			for _, y := range p.Symbols {
				next, one := uint64(0), uint64(2)
				if y.Place {
					one = of[y.N]
				}
				for n := range deep + 1 {
					if one>>n&1 == 1 {
						next |= all << n
					}
				}
				all = next & (1<<(deep+1) - 1)
			}
			more = more || all&^of[p.Place] != 0
			of[p.Place] |= all
		}
	}
	return of
}

// ends is which places derive a text, of any length.
func ends(s *sets.Sets) map[int]bool {
	of := map[int]bool{}
	for range s.Places() {
		for _, p := range s.Productions() {
			if alive(of, p) {
				of[p.Place] = true
			}
		}
	}
	return of
}

// alive tells whether all places in a production end.
func alive(ends map[int]bool, p sets.Production) bool {
	return !slices.ContainsFunc(p.Symbols, func(y sets.Symbol) bool { return y.Place && !ends[y.N] })
}

// span is a place, and a part of a text.
type span struct{ place, from, to int }

// derives tells whether a text of classes is derived from a place.
func derives(s *sets.Sets, place int, text []int) bool {
	have := map[span]bool{}
	for size := -1; size != len(have); {
		size = len(have)
		for _, p := range s.Productions() {
			for from := range len(text) + 1 {
				at := map[int]bool{from: true}
				for _, y := range p.Symbols {
					next := map[int]bool{}
					for i := range at {
						if !y.Place && i < len(text) && text[i] == y.N {
							next[i+1] = true
						}
						for j := i; y.Place && j <= len(text); j++ {
							if have[span{y.N, i, j}] {
								next[j] = true
							}
						}
					}
					at = next
				}
				for to := range at {
					have[span{p.Place, from, to}] = true
				}
			}
		}
	}
	return have[span{place, 0, len(text)}]
}

// maker makes grammars by chance.
type maker struct{ *rand.Rand }

// text is a grammar's text, of few classes and sorts, whose rules have up to four parts.
func (r maker) text() string {
	var b strings.Builder
	b.WriteString("token a a\ntoken b b\nlayout w w\nlayout v v\n")
	sorts := 1 + r.Intn(5)
	for n := range sorts {
		fmt.Fprintf(&b, "sort s%d\n", n)
	}
	for n := range 1 + r.Intn(12) {
		fmt.Fprintf(&b, "rule s%d %d R%d =", r.Intn(sorts), r.Intn(3), n)
		for range r.Intn(5) {
			switch r.Intn(5) {
			case 0:
				b.WriteString([]string{" a", " b", " w"}[r.Intn(3)])
			case 1:
				b.WriteString([]string{" 'x", " 'y"}[r.Intn(2)])
			default:
				fmt.Fprintf(&b, " s%d:%d", r.Intn(sorts), r.Intn(3))
			}
		}
		b.WriteString("\n")
	}
	return b.String()
}

// P13.1, P13.2: grammars by chance, against the chapter's words.
func TestModel(t *testing.T) {
	r := maker{rand.New(rand.NewSource(13))}
	for range 2000 {
		text := r.text()
		k := of(t, text)
		of, ends := lengths(k.s), ends(k.s)
		var void []int
		for n, lengths := range of {
			if !ends[n] {
				void = append(void, n)
			}
			checkPlace(t, text, k, n, lengths, ends[n])
		}
		if got := k.u.Void(); !slices.Equal(got, void) {
			t.Fatalf("Void of %q: %v, not %v", text, got, void)
		}
		first, want := 0, api.OK
		if len(void) > 0 {
			first, want = void[0], api.ErrVoid
		}
		if n, err := useful.Check(k.g); n != first || err != want {
			t.Fatalf("Check of %q: %d, %d", text, n, err)
		}
		checkUnused(t, text, k, ends)
	}
}

// checkPlace holds what is told of a place against how long its texts are.
func checkPlace(t *testing.T, text string, k known, n int, lengths uint64, ends bool) {
	t.Helper()
	want := 0
	for lengths != 0 && lengths>>want&1 == 0 {
		want++
	}
	size, ok := k.u.Size(n)
	if ok != ends || lengths != 0 && size != want || lengths == 0 && ok && size <= deep || !ok && size != 0 {
		t.Fatalf("Size(%d) of %q: %d, %v, not %d, %v", n, text, size, ok, want, ends)
	}
	l, ok := k.u.Yield(n)
	if ok != (ends && size <= 1000) || ok && len(l) != size || !ok && l != nil {
		t.Fatalf("Yield(%d) of %q: %v, %v", n, text, l, ok)
	}
	if ok && size <= 12 && !derives(k.s, n, l) {
		t.Fatalf("Yield(%d) of %q: %v, which it doesn't derive", n, text, l)
	}
}

// checkUnused holds what isn't used against the productions that end.
func checkUnused(t *testing.T, text string, k known, ends map[int]bool) {
	t.Helper()
	var noRules, noClasses []int
	for n := range k.g.Rules() {
		if !slices.ContainsFunc(k.s.Productions(), func(p sets.Production) bool { return p.Rule == n && alive(ends, p) }) {
			noRules = append(noRules, n)
		}
	}
	for n, c := range k.g.Classes() {
		has := func(p sets.Production) bool { return slices.Contains(p.Symbols, sets.Symbol{N: n}) && alive(ends, p) }
		if !c.Layout && !slices.ContainsFunc(k.s.Productions(), has) {
			noClasses = append(noClasses, n)
		}
	}
	rules, classes := k.u.Unused(k.g)
	if !slices.Equal(rules, noRules) || !slices.Equal(classes, noClasses) {
		t.Fatalf("Unused of %q: %v, %v, not %v, %v", text, rules, classes, noRules, noClasses)
	}
}
