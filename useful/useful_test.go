package useful_test

import (
	"fmt"
	"slices"
	"strings"
	"testing"

	"frisket/api"
	"frisket/gram"
	"frisket/sets"
	"frisket/useful"
)

// known is a grammar, and what can come of it.
type known struct {
	g *gram.Grammar
	s *sets.Sets
	u *useful.Useful
}

// of is what can come of a grammar's text.
func of(t testing.TB, text string) known {
	t.Helper()
	g, n, err := gram.Parse(text)
	if err != api.OK {
		t.Fatalf("Parse(%.200q): %d, %d", text, n, err)
	}
	s, err := sets.New(g)
	if err != api.OK {
		t.Fatalf("sets of %.200q: %d", text, err)
	}
	u, err := useful.New(s)
	if u == nil || err != api.OK {
		t.Fatalf("New(%.200q): %v, %d", text, u, err)
	}
	return known{g, s, u}
}

// number is the number of a sort's place, from level 0 on.
func (k known) number(t testing.TB, sort string) int {
	t.Helper()
	n, ok := k.g.Sort(sort)
	at := slices.Index(k.s.Places(), sets.Place{Sort: n})
	if !ok || at < 0 {
		t.Fatalf("no place of %s", sort)
	}
	return at
}

// powers is a grammar whose sort p<n> is 10^n of a, and m<n> one less.
func powers() string {
	var text strings.Builder
	text.WriteString("token a a\nsort s\nsort p0\nsort m0\nrule s 0 S = p7:0 m7:0\nrule p0 0 P0 = a\nrule m0 0 M0 =\n")
	for n := 1; n <= 7; n++ {
		ten := strings.Repeat(fmt.Sprintf(" p%d:0", n-1), 10)
		nine := strings.Repeat(fmt.Sprintf(" p%d:0", n-1), 9)
		fmt.Fprintf(&text, "sort p%d\nsort m%d\nrule p%d 0 P%d =%s\nrule m%d 0 M%d =%s m%d:0\n", n, n, n, n, ten, n, n, nine, n-1)
	}
	return text.String()
}

// P13.1: the chapter's example, and a void place behind others.
func TestVoid(t *testing.T) {
	for _, c := range []struct {
		text string
		void []int
		size []int // -1: of a void one
	}{
		{"token a a\nsort s\nrule s 0 A = a s:0\n", []int{0}, []int{-1}},
		{"token a a\nsort s\nrule s 0 A = a s:0\nrule s 0 E =\n", nil, []int{0}},
		{"token a a\nsort s\nrule s 0 A = a a a\nrule s 0 B = s:0 s:0\nrule s 0 C = a a\n", nil, []int{2}},
		{"token a a\nsort s\nsort v\nsort w\nrule s 0 A = v:0 a w:0\nrule s 0 B = a w:0 v:9\nrule s 0 C = w:0 'x\nrule v 1 V = v:2 a\nrule w 0 W = a a\n", []int{1, 3, 4}, []int{3, -1, 2, -1, -1}},
		{"token a a\nsort s\nsort x\nrule s 0 A = x:0\nrule x 0 B = s:0\n", []int{0, 1}, []int{-1, -1}},
		{"token a a\nsort s\nsort x\nrule x 0 X = a\n", []int{0}, []int{-1}},
		{"token a a\nsort s\nrule s 1 A = a\nrule s 1 B = s:2\n", []int{1}, []int{1, -1}},
	} {
		k := of(t, c.text)
		if got := k.u.Void(); !slices.Equal(got, c.void) {
			t.Errorf("Void of %q: %v", c.text, got)
		}
		if len(k.s.Places()) != len(c.size) {
			t.Errorf("places of %q: %v", c.text, k.s.Places())
		}
		for n, want := range c.size {
			got, ok := k.u.Size(n)
			if ok != (want >= 0) || got != max(want, 0) {
				t.Errorf("Size(%d) of %q: %d, %v", n, c.text, got, ok)
			}
			text, yields := k.u.Yield(n)
			if yields != ok || len(text) != got || !derives(k.s, n, text) && ok {
				t.Errorf("Yield(%d) of %q: %v, %v", n, c.text, text, yields)
			}
		}
	}
}

// P13.1: sizes up to 10^6 and above; texts of those up to 1000.
func TestSizes(t *testing.T) {
	k := of(t, powers())
	if len(k.u.Void()) != 0 {
		t.Errorf("Void: %v", k.u.Void())
	}
	power := 1
	for n := range 8 {
		for name, size := range map[string]int{"p": power, "m": power - 1} {
			at := k.number(t, fmt.Sprint(name, n))
			if got, ok := k.u.Size(at); got != min(size, 1000000) || !ok {
				t.Errorf("size %d: %d, %v", size, got, ok)
			}
			text, ok := k.u.Yield(at)
			if ok != (size <= 1000) || ok && (len(text) != size || slices.Contains(text, 1)) || !ok && text != nil {
				t.Errorf("text of size %d: %d of %v, %v", size, len(text), text, ok)
			}
		}
		power *= 10
	}
	if got, ok := k.u.Size(0); got != 1000000 || !ok {
		t.Errorf("Size(0): %d, %v", got, ok)
	}
	one := of(t, strings.Replace(powers(), "p7:0 m7:0", "p3:0 a", 1))
	if size, ok := one.u.Size(0); size != 1001 || !ok {
		t.Errorf("size 1001: %d, %v", size, ok)
	}
	if text, ok := one.u.Yield(0); text != nil || ok {
		t.Errorf("text of size 1001: %v, %v", text, ok)
	}
}

// P13.1: a size that would outgrow any number is told, and where a shorter way is known only later on, that one.
func TestGrows(t *testing.T) {
	var text strings.Builder
	text.WriteString("token a a\ntoken b b\n")
	for n := range api.MaxSorts {
		fmt.Fprintf(&text, "sort s%d\n", n)
	}
	last := api.MaxSorts - 1
	for n := range last {
		fmt.Fprintf(&text, "rule s%d 0 A%d =%s\n", n, n, strings.Repeat(fmt.Sprintf(" s%d:0", n+1), api.MaxParts))
	}
	grows := text.String()
	k := of(t, grows+fmt.Sprintf("rule s%d 0 A = a\n", last))
	if size, ok := k.u.Size(0); size != 1000000 || !ok {
		t.Errorf("Size(0): %d, %v", size, ok)
	}
	k = of(t, grows+fmt.Sprintf("rule s%d 0 A = a\nrule s%d 0 B = s%d:1 s%d:1 b\nrule s%d 1 E =\n", last, last/2, last, last, last))
	if size, ok := k.u.Size(0); size != 0 || !ok {
		t.Errorf("Size(0) of what is empty: %d, %v", size, ok)
	}
	if l, ok := k.u.Yield(0); len(l) != 0 || !ok {
		t.Errorf("Yield(0) of what is empty: %v, %v", l, ok)
	}
}

// P13.1: of no place, or nil, nothing.
func TestNoPlace(t *testing.T) {
	k := of(t, "token a a\nsort s\nrule s 0 A = a\n")
	for _, n := range []int{-1, 1, 2, 1 << 62, -1 << 63} {
		if size, ok := k.u.Size(n); size != 0 || ok {
			t.Errorf("Size(%d): %d, %v", n, size, ok)
		}
		if text, ok := k.u.Yield(n); text != nil || ok {
			t.Errorf("Yield(%d): %v, %v", n, text, ok)
		}
	}
}

// P13.1, P13.2: of nil nothing is known; nor do others panic.
func TestNil(t *testing.T) {
	if u, err := useful.New(nil); u != nil || err != api.ErrArg {
		t.Errorf("New(nil): %v, %d", u, err)
	}
	if n, err := useful.Check(nil); n != 0 || err != api.ErrArg {
		t.Errorf("Check(nil): %d, %d", n, err)
	}
	k := of(t, "token a a\nsort s\nrule s 0 A = a\n")
	var none *useful.Useful
	if none.Void() != nil {
		t.Errorf("Void of nil: %v", none.Void())
	}
	if size, ok := none.Size(0); size != 0 || ok {
		t.Errorf("Size of nil: %d, %v", size, ok)
	}
	if text, ok := none.Yield(0); text != nil || ok {
		t.Errorf("Yield of nil: %v, %v", text, ok)
	}
	if rules, classes := none.Unused(k.g); rules != nil || classes != nil {
		t.Errorf("Unused of nil: %v, %v", rules, classes)
	}
	if rules, classes := k.u.Unused(nil); rules != nil || classes != nil {
		t.Errorf("Unused(nil): %v, %v", rules, classes)
	}
	useful.Check(&gram.Grammar{})
	empty, _ := useful.New(&sets.Sets{})
	for _, u := range []*useful.Useful{{}, {Sets: k.s}, empty} {
		u.Void()
		u.Size(0)
		u.Yield(0)
		u.Unused(k.g)
		u.Unused(&gram.Grammar{})
	}
}

// P13.2: what isn't used.
func TestUnused(t *testing.T) {
	for _, c := range []struct {
		text           string
		rules, classes []int
	}{
		// all is used, but the layout, which isn't told
		{"token a a\nlayout w w\nsort s\nrule s 0 A = a\n", nil, nil},
		// a class in no rule, behind a layout that is used
		{"layout w w\ntoken a a\ntoken b b\nsort s\nrule s 0 A = w\n", nil, []int{1, 2}},
		// a rule that never ends, and its literal; the class it has is used by another
		{"token a a\nsort s\nsort v\nrule s 0 V = 'x a v:0 'y\nrule s 0 A = a 'y\nrule v 0 W = v:0 'z\n", []int{0, 2}, []int{0, 2}},
		// a sort that isn't met; a rule whose level is below all from which its sort is met
		{"token a a\ntoken b b\nsort s\nsort x\nsort y\nrule y 9 Y = b\nrule s 0 S = x:3\nrule x 2 Low = 'x\nrule x 3 X = a\n", []int{0, 2}, []int{0, 2}},
		// a rule that is void from one level on, but not from another
		{"token a a\nsort s\nsort x\nrule s 0 S = x:1\nrule s 0 T = x:2\nrule x 1 X = a\n", []int{1}, nil},
		// what is met in void productions alone is used, if it isn't void
		{"token a a\nsort s\nsort x\nsort v\nrule s 0 S = x:0 v:0\nrule x 0 X = a\n", []int{0}, nil},
		// brackets are rules
		{"token a a\nsort s\nsort x\nrule s 0 A = a\nbracket s '( ')\nbracket x '[ ']\n", []int{2}, []int{2, 3}},
		// all is void
		{"token a a\nsort s\nrule s 0 A = a s:0\n", []int{0}, []int{0}},
	} {
		k := of(t, c.text)
		rules, classes := k.u.Unused(k.g)
		if !slices.Equal(rules, c.rules) || !slices.Equal(classes, c.classes) {
			t.Errorf("Unused of %q: %v, %v", c.text, rules, classes)
		}
	}
}

// P13.2: the first void place, of those that are met alone.
func TestCheck(t *testing.T) {
	for _, c := range []struct {
		text  string
		place int
		err   api.Errno
	}{
		{"token a a\nsort s\nrule s 0 A = a\n", 0, api.OK},
		{"token a a\nsort s\nrule s 0 A = a s:0\n", 0, api.ErrVoid},
		{"token a a\nsort s\nsort x\nrule s 0 A = a\nrule x 0 X = x:0\n", 0, api.OK},
		{"token a a\nsort s\nsort x\nsort y\nsort z\nrule s 0 A = a\nrule s 0 B = x:0 y:0 z:0\nrule x 0 X = a\nrule y 0 Y = y:0\nrule z 0 Z = z:0\n", 2, api.ErrVoid},
		{"token a a\nsort s\nrule s 4 A = a\nrule s 4 B = s:5 a\n", 1, api.ErrVoid},
	} {
		g, _, _ := gram.Parse(c.text)
		if n, err := useful.Check(g); n != c.place || err != c.err {
			t.Errorf("Check(%q): %d, %d", c.text, n, err)
		}
	}
}

// What is answered is new memory.
func TestNewMemory(t *testing.T) {
	k := of(t, "token a a\ntoken b b\nsort s\nsort v\nrule s 0 A = a v:0\nrule s 0 B = a a\nrule v 0 V = b v:0\n")
	tell := func() string {
		text, _ := k.u.Yield(0)
		rules, classes := k.u.Unused(k.g)
		return fmt.Sprint(k.u.Void(), text, rules, classes)
	}
	want := tell()
	text, _ := k.u.Yield(0)
	rules, classes := k.u.Unused(k.g)
	for _, l := range [][]int{k.u.Void(), text, rules, classes} {
		for i := range l {
			l[i] = 9
		}
	}
	if got := tell(); got != want || want != "[1] [0 0] [0 2] [1]" {
		t.Errorf("changed: %s, not %s", got, want)
	}
}
