package regex_test

import (
	"fmt"
	"math"
	"slices"
	"strings"
	"testing"

	"frisket/api"
	"frisket/regex"
)

// setOf is the set of a text's bytes.
func setOf(s string) [4]uint64 {
	var set [4]uint64
	for i := 0; i < len(s); i++ {
		set[s[i]/64] |= 1 << (s[i] % 64)
	}
	return set
}

// allBut is the set of all bytes but a text's.
func allBut(s string) [4]uint64 {
	set := setOf(s)
	for i := range set {
		set[i] = ^set[i]
	}
	return set
}

// shown tells a node's shape: C, O and S of others, E, and a set's bytes.
func shown(n *regex.Node) string {
	var parts []string
	for _, p := range regex.Parts(n) {
		parts = append(parts, shown(p))
	}
	switch regex.Kind(n) {
	case regex.KindSet:
		return shownSet(regex.Bytes(n))
	case regex.KindEmpty:
		return "E"
	case regex.KindCat:
		return "C(" + strings.Join(parts, " ") + ")"
	case regex.KindOr:
		return "O(" + strings.Join(parts, " ") + ")"
	case regex.KindStar:
		return "S(" + strings.Join(parts, " ") + ")"
	}
	return "nil"
}

func shownSet(b [4]uint64) string {
	s := ""
	for c := range 256 {
		if b[c/64]>>(c%64)&1 == 1 {
			s += string([]byte{byte(c)})
		}
	}
	return fmt.Sprintf("%q", s)
}

// nodesOf is how many nodes there are, counted one by one.
func nodesOf(n *regex.Node) int {
	count := 1
	for _, p := range regex.Parts(n) {
		count += nodesOf(p)
	}
	return count
}

// means tells whether an expression means a text, by trying all ways to cut it.
func means(n *regex.Node, s string) bool {
	parts := regex.Parts(n)
	switch regex.Kind(n) {
	case regex.KindSet:
		return len(s) == 1 && regex.Bytes(n)[s[0]/64]>>(s[0]%64)&1 == 1
	case regex.KindEmpty:
		return s == ""
	case regex.KindCat:
		for i := 0; i <= len(s); i++ {
			if means(parts[0], s[:i]) && means(parts[1], s[i:]) {
				return true
			}
		}
		return false
	case regex.KindOr:
		return means(parts[0], s) || means(parts[1], s)
	}
	for i := 1; i <= len(s); i++ {
		if means(parts[0], s[:i]) && means(n, s[i:]) {
			return true
		}
	}
	return s == ""
}

// texts are all texts of some bytes, up to a length.
func texts(bytes string, most int) []string {
	all := []string{""}
	for from, length := 0, 0; length < most; length++ {
		to := len(all)
		for _, s := range all[from:to] {
			for i := range len(bytes) {
				all = append(all, s+bytes[i:i+1])
			}
		}
		from = to
	}
	return all
}

// expressions are all expressions of just so many nodes, by that number.
func expressions(most int) [][]*regex.Node {
	all := make([][]*regex.Node, most+1)
	all[1] = []*regex.Node{regex.Empty(), regex.Set(setOf("a")), regex.Set(setOf("ab")), regex.Set(setOf(""))}
	for size := 2; size <= most; size++ {
		for _, n := range all[size-1] {
			all[size] = append(all[size], regex.Star(n))
		}
		for first := 1; first < size-1; first++ {
			for _, a := range all[first] {
				for _, b := range all[size-1-first] {
					all[size] = append(all[size], regex.Cat(a, b), regex.Or(a, b))
				}
			}
		}
	}
	return all
}

// P5.2: each kind's own, one by one.
func TestKinds(t *testing.T) {
	if got := []int{regex.KindSet, regex.KindEmpty, regex.KindCat, regex.KindOr, regex.KindStar}; !slices.Equal(got, []int{0, 1, 2, 3, 4}) {
		t.Errorf("kinds: %v", got)
	}
	a, b := regex.Set(setOf("a\x00\xff")), regex.Empty()
	for _, c := range []struct {
		n        *regex.Node
		kind     int
		size     int
		bytes    [4]uint64
		parts    []*regex.Node
		nullable bool
	}{
		{nil, -1, 0, [4]uint64{}, nil, false},
		{a, regex.KindSet, 1, [4]uint64{1, 1 << 33, 0, 1 << 63}, nil, false},
		{regex.Set([4]uint64{}), regex.KindSet, 1, [4]uint64{}, nil, false},
		{b, regex.KindEmpty, 1, [4]uint64{}, nil, true},
		{regex.Cat(a, b), regex.KindCat, 3, [4]uint64{}, []*regex.Node{a, b}, false},
		{regex.Cat(b, a), regex.KindCat, 3, [4]uint64{}, []*regex.Node{b, a}, false},
		{regex.Cat(b, b), regex.KindCat, 3, [4]uint64{}, []*regex.Node{b, b}, true},
		{regex.Or(a, b), regex.KindOr, 3, [4]uint64{}, []*regex.Node{a, b}, true},
		{regex.Or(b, a), regex.KindOr, 3, [4]uint64{}, []*regex.Node{b, a}, true},
		{regex.Or(a, a), regex.KindOr, 3, [4]uint64{}, []*regex.Node{a, a}, false},
		{regex.Star(a), regex.KindStar, 2, [4]uint64{}, []*regex.Node{a}, true},
	} {
		if got := regex.Kind(c.n); got != c.kind {
			t.Errorf("Kind of %s: %d", shown(c.n), got)
		}
		if got := regex.Size(c.n); got != c.size {
			t.Errorf("Size of %s: %d", shown(c.n), got)
		}
		if got := regex.Bytes(c.n); got != c.bytes {
			t.Errorf("Bytes of %s: %v", shown(c.n), got)
		}
		if got := regex.Parts(c.n); !slices.Equal(got, c.parts) {
			t.Errorf("Parts of %s: %v", shown(c.n), got)
		}
		if got := regex.Nullable(c.n); got != c.nullable {
			t.Errorf("Nullable of %s: %v", shown(c.n), got)
		}
	}
}

// P5.2: of none, of one, of several, and of a nil one anywhere.
func TestCatAndOr(t *testing.T) {
	a, b, c := regex.Set(setOf("a")), regex.Set(setOf("b")), regex.Star(regex.Set(setOf("c")))
	if got := shown(regex.Cat()); got != "E" {
		t.Errorf("Cat of none: %s", got)
	}
	if got := shown(regex.Or()); got != `""` {
		t.Errorf("Or of none: %s", got)
	}
	if regex.Cat(c) != c || regex.Or(c) != c {
		t.Error("of one isn't itself")
	}
	if got := shown(regex.Cat(a, b, c, a)); got != `C("a" C("b" C(S("c") "a")))` {
		t.Errorf("Cat: %s", got)
	}
	if got := shown(regex.Or(a, b, c, a)); got != `O("a" O("b" O(S("c") "a")))` {
		t.Errorf("Or: %s", got)
	}
	for _, l := range [][]*regex.Node{{nil}, {nil, a}, {a, nil}, {a, nil, b}, {a, b, nil}, {nil, nil}} {
		if regex.Cat(l...) != nil || regex.Or(l...) != nil {
			t.Errorf("of %v: a node", l)
		}
	}
	if regex.Star(nil) != nil {
		t.Error("Star(nil): a node")
	}
}

// What is handed in is neither changed nor kept, and what is answered is new.
func TestNodesAreApart(t *testing.T) {
	a, b, c := regex.Set(setOf("a")), regex.Set(setOf("b")), regex.Set(setOf("c"))
	l := []*regex.Node{a, b, c, a}
	cat, or := regex.Cat(l[:3]...), regex.Or(l[:2]...)
	if !slices.Equal(l, []*regex.Node{a, b, c, a}) {
		t.Error("the list was changed")
	}
	l[0], l[1], l[2] = c, c, c
	regex.Parts(cat)[0] = nil
	_ = append(regex.Parts(or)[:1], nil)
	if shown(cat) != `C("a" C("b" "c"))` || shown(or) != `O("a" "b")` {
		t.Errorf("%s, %s", shown(cat), shown(or))
	}
}

// P5.2
func TestLiteral(t *testing.T) {
	for _, c := range []struct{ s, want string }{
		{"", "E"}, {"|", `"|"`}, {"\\n", `C("\\" "n")`}, {"a\x00\xff", `C("a" C("\x00" "\xff"))`},
	} {
		if n, err := regex.Literal(c.s); shown(n) != c.want || err != api.OK {
			t.Errorf("Literal(%q): %s, %d", c.s, shown(n), err)
		}
	}
	for c := range 256 {
		n, err := regex.Literal(string([]byte{byte(c)}))
		if err != api.OK || regex.Bytes(n) != setOf(string([]byte{byte(c)})) {
			t.Fatalf("Literal of byte %d: %s, %d", c, shown(n), err)
		}
	}
	s := strings.Repeat("ab", 100)
	if n, err := regex.Literal(s); err != api.OK || regex.Size(n) != 399 || !regex.Matches(n, s) || regex.Matches(n, s[1:]) {
		t.Errorf("Literal of 200 bytes: %d", err)
	}
	if n, err := regex.Literal(s + "a"); n != nil || err != api.ErrLong {
		t.Errorf("Literal of 201 bytes: %d", err)
	}
}

// P5.2: what nodes that stand in several places have is counted in each of them, as far as numbers go.
func TestSizeOfDoubles(t *testing.T) {
	n := regex.Set(setOf("a"))
	for k := range 62 {
		if got := regex.Size(n); got != 1<<(k+1)-1 {
			t.Fatalf("Size of the double %d: %d", k, got)
		}
		n = regex.Or(n, n)
	}
	for range 5 {
		n = regex.Cat(n, n, regex.Star(n))
	}
	if got := regex.Size(n); got != math.MaxInt {
		t.Errorf("Size of what can't be counted: %d", got)
	}
}

// P5.2: every small expression, and every short text.
func TestEverySmallExpression(t *testing.T) {
	all := texts("abc", 4)
	for size, l := range expressions(6) {
		for _, n := range l {
			if got := regex.Size(n); got != size || got != nodesOf(n) {
				t.Fatalf("Size of %s: %d", shown(n), got)
			}
			if got := regex.Nullable(n); got != means(n, "") {
				t.Fatalf("Nullable of %s: %v", shown(n), got)
			}
			if size == 6 && len(l) > 1 { // there are many of them
				checkTexts(t, n, n, all[:13])
			} else {
				checkTexts(t, n, n, all)
			}
		}
	}
}

// checkTexts holds what Matches tells of one node against what another means.
func checkTexts(t *testing.T, n, model *regex.Node, all []string) {
	t.Helper()
	for _, s := range all {
		if got := regex.Matches(n, s); got != means(model, s) {
			t.Fatalf("Matches(%s, %q): %v", shown(model), s, got)
		}
	}
}
