package nfa_test

import (
	"math/rand"
	"slices"
	"strings"
	"testing"

	"frisket/api"
	"frisket/nfa"
	"frisket/regex"
)

// setOf is a Set of a text's bytes.
func setOf(s string) *regex.Node {
	var set [4]uint64
	for _, c := range []byte(s) {
		set[c/64] |= 1 << (c % 64)
	}
	return regex.Set(set)
}

// parsed is expressions that are written.
func parsed(t testing.TB, written ...string) []*regex.Node {
	t.Helper()
	var l []*regex.Node
	for _, s := range written {
		n, at, err := regex.Parse(s)
		if err != api.OK {
			t.Fatalf("Parse(%q): %d, %d", s, at, err)
		}
		l = append(l, n)
	}
	return l
}

// machine is the machine of expressions.
func machine(t testing.TB, l ...*regex.Node) *nfa.Machine {
	t.Helper()
	m, err := nfa.New(l...)
	if m == nil || err != api.OK {
		t.Fatalf("New: %v, %d", m, err)
	}
	return m
}

// many is a node, many times.
func many(n *regex.Node, times int) []*regex.Node {
	return slices.Repeat([]*regex.Node{n}, times)
}

// upTo is the numbers from one on, up to another, this one not among them.
func upTo(from, to int) []int {
	var l []int
	for i := from; i < to; i++ {
		l = append(l, i)
	}
	return l
}

// texts are all texts of some bytes, up to a length.
func texts(bytes string, most int) []string {
	all := []string{""}
	for i := 0; i < len(all); i++ {
		for j := range len(bytes) {
			if len(all[i]) < most {
				all = append(all, all[i]+bytes[j:j+1])
			}
		}
	}
	return all
}

// expressions are all expressions of at most so many nodes.
func expressions(most int) []*regex.Node {
	all := make([][]*regex.Node, most+1)
	all[1] = []*regex.Node{regex.Empty(), setOf("a"), setOf("ab"), setOf("")}
	for size := 2; size <= most; size++ {
		for _, n := range all[size-1] {
			all[size] = append(all[size], regex.Star(n))
		}
		for first := 1; first < size-1; first++ {
			for _, a := range all[first] {
				for _, b := range all[size-1-first] {
					all[size] = append(all[size], regex.Cat(a, b), regex.Or(a, b))
				}
			}
		}
	}
	return slices.Concat(all...)
}

// words is a set of texts whose bytes are positions.
type words map[string]struct{}

// meant is what an expression means as if each Set had a byte, its position, up to a length.
func meant(n *regex.Node, next *byte, most int) words {
	all := words{}
	switch regex.Kind(n) {
	case regex.KindSet:
		all[string([]byte{*next})] = struct{}{}
		*next++
	case regex.KindEmpty:
		all[""] = struct{}{}
	case regex.KindCat:
		first := meant(regex.Parts(n)[0], next, most)
		all = crossed(first, meant(regex.Parts(n)[1], next, most), most)
	case regex.KindOr:
		for _, p := range regex.Parts(n) {
			for w := range meant(p, next, most) {
				all[w] = struct{}{}
			}
		}
	case regex.KindStar:
		one := meant(regex.Parts(n)[0], next, most)
		one[""], all[""] = struct{}{}, struct{}{}
		for range most {
			all = crossed(all, one, most)
		}
	}
	return all
}

// crossed is each of some words with each of others behind it, up to a length.
func crossed(a, b words, most int) words {
	all := words{}
	for v := range a {
		for w := range b {
			if len(v)+len(w) <= most {
				all[v+w] = struct{}{}
			}
		}
	}
	return all
}

// model is what the chapter's words say of an expression.
type model struct {
	first, last []int
	follow      [][]int
	empty       bool
}

// modelOf finds it in the words that are meant, which are long enough to show all that may stand beside another.
func modelOf(n *regex.Node, count int) model {
	var next byte
	all := meant(n, &next, 2*count)
	var first, last [16]bool
	var follow [16][16]bool
	for w := range all {
		if w == "" {
			continue
		}
		first[w[0]], last[w[len(w)-1]] = true, true
		for i := 1; i < len(w); i++ {
			follow[w[i-1]][w[i]] = true
		}
	}
	_, empty := all[""]
	m := model{first: trues(first), last: trues(last), empty: empty}
	for _, l := range follow[:count] {
		m.follow = append(m.follow, trues(l))
	}
	return m
}

func trues(a [16]bool) []int {
	var l []int
	for i, so := range a {
		if so {
			l = append(l, i)
		}
	}
	return l
}

// moved is a list with a number added to each.
func moved(l []int, by int) []int {
	l = slices.Clone(l)
	for i := range l {
		l[i] += by
	}
	return l
}

// setsOf is an expression's Sets, from the left to the right.
func setsOf(n *regex.Node) []*regex.Node {
	if regex.Kind(n) == regex.KindSet {
		return []*regex.Node{n}
	}
	var l []*regex.Node
	for _, p := range regex.Parts(n) {
		l = append(l, setsOf(p)...)
	}
	return l
}

// check holds a machine of expressions against what the chapter's words say.
func check(t *testing.T, l ...*regex.Node) {
	t.Helper()
	m := machine(t, l...)
	if m.Rules() != len(l) {
		t.Fatalf("Rules: %d of %d", m.Rules(), len(l))
	}
	from := 0
	for rule, n := range l {
		sets := setsOf(n)
		w := modelOf(n, len(sets))
		if got := m.First(rule); !slices.Equal(got, moved(w.first, from)) {
			t.Fatalf("First(%d): %v, not %v behind %d", rule, got, w.first, from)
		}
		if got := m.Last(rule); !slices.Equal(got, moved(w.last, from)) {
			t.Fatalf("Last(%d): %v, not %v behind %d", rule, got, w.last, from)
		}
		if got := m.Empty(rule); got != w.empty {
			t.Fatalf("Empty(%d): %v", rule, got)
		}
		for i, set := range sets {
			p := from + i
			if got := m.Follow(p); !slices.Equal(got, moved(w.follow[i], from)) {
				t.Fatalf("Follow(%d): %v, not %v behind %d", p, got, w.follow[i], from)
			}
			if got := m.Rule(p); got != rule {
				t.Fatalf("Rule(%d): %d, not %d", p, got, rule)
			}
			for b := range 256 {
				if got := m.Has(p, byte(b)); got != (regex.Bytes(set)[b/64]>>(b%64)&1 == 1) {
					t.Fatalf("Has(%d, %d): %v", p, b, got)
				}
			}
		}
		from += len(sets)
	}
	if m.Len() != from {
		t.Fatalf("Len: %d, not %d", m.Len(), from)
	}
}

// checkRun holds Run against what each expression means.
func checkRun(t *testing.T, all []string, l ...*regex.Node) {
	t.Helper()
	m := machine(t, l...)
	for _, s := range all {
		var want []int
		for rule, n := range l {
			if regex.Matches(n, s) {
				want = append(want, rule)
			}
		}
		if got := m.Run(s); !slices.Equal(got, want) {
			t.Fatalf("Run(%q): %v, not %v", s, got, want)
		}
	}
}

// P6.1: the chapter's example.
func TestExample(t *testing.T) {
	m := machine(t, parsed(t, "ab*")...)
	if !slices.Equal(m.First(0), []int{0}) || !slices.Equal(m.Last(0), []int{0, 1}) {
		t.Errorf("First %v, Last %v", m.First(0), m.Last(0))
	}
	if !slices.Equal(m.Follow(0), []int{1}) || !slices.Equal(m.Follow(1), []int{1}) {
		t.Errorf("Follow: %v, %v", m.Follow(0), m.Follow(1))
	}
	if m.Empty(0) || m.Len() != 2 || m.Rules() != 1 {
		t.Errorf("Empty %v, Len %d, Rules %d", m.Empty(0), m.Len(), m.Rules())
	}
}

// P6.1, P6.2: every small expression, alone.
func TestEverySmallExpression(t *testing.T) {
	all := texts("abc", 3)
	for _, n := range expressions(5) {
		check(t, n)
		checkRun(t, all, n)
	}
}

// P6.1, P6.2: several expressions, of nodes that stand here and there.
func TestSeveral(t *testing.T) {
	random := rand.New(rand.NewSource(7))
	all := texts("ab", 5)
	for range 1500 {
		l := []*regex.Node{regex.Empty(), setOf("a"), setOf("b"), setOf("ab"), setOf("")}
		for len(l) < 11 {
			a, b := l[random.Intn(len(l))], l[random.Intn(len(l))]
			n := []*regex.Node{regex.Cat(a, b), regex.Or(a, b), regex.Star(a)}[random.Intn(3)]
			if len(setsOf(n)) <= 4 {
				l = append(l, n)
			}
		}
		random.Shuffle(len(l), func(i, j int) { l[i], l[j] = l[j], l[i] })
		some := l[:1+random.Intn(len(l))]
		check(t, some...)
		checkRun(t, all, some...)
	}
}

// P6.1: a node that stands in two places has positions in both, and an expression may be there twice.
func TestSameNode(t *testing.T) {
	a := setOf("a")
	check(t, regex.Cat(a, a))
	check(t, a, a, regex.Or(a, regex.Star(a)), a)
	plus := parsed(t, "a+")[0] // its a is one node in two places
	m := machine(t, plus, plus)
	if m.Len() != 4 || !slices.Equal(m.Follow(2), []int{3}) || !slices.Equal(m.Last(1), []int{2, 3}) {
		t.Errorf("%d positions; Follow %v, Last %v", m.Len(), m.Follow(2), m.Last(1))
	}
}

// P6.1: by their shape, as if each Set had a byte; but no text goes through a Set of none.
func TestSetOfNoBytes(t *testing.T) {
	none := regex.Or()
	check(t, regex.Cat(setOf("a"), none, setOf("b")))
	m := machine(t, regex.Cat(setOf("a"), none, setOf("b")), none, regex.Star(none))
	if !slices.Equal(m.Follow(0), []int{1}) || !slices.Equal(m.Follow(1), []int{2}) || !slices.Equal(m.First(1), []int{3}) {
		t.Errorf("%v, %v, %v", m.Follow(0), m.Follow(1), m.First(1))
	}
	for b := range 256 {
		if m.Has(1, byte(b)) {
			t.Errorf("Has(1, %d)", b)
		}
	}
	if got := m.Run(""); !slices.Equal(got, []int{2}) {
		t.Errorf("Run of the empty text: %v", got)
	}
	if m.Run("ab") != nil || m.Run("a") != nil {
		t.Error("a text goes through a Set of no bytes")
	}
}

// P6.2: bytes of all kinds, and long texts.
func TestRun(t *testing.T) {
	l := parsed(t, "if", "[a-z]+", `\x00|\xff+`, "", "(a|b)*abb", ".*")
	checkRun(t, []string{"", "if", "i", "iff", "abb", "babb", "ab", "\x00", "\x00\x00", "\xff\xff", "\n", "a\n", "é", "IF"}, l...)
	m := machine(t, l...)
	long := strings.Repeat("ab", 1<<16)
	if got := m.Run(long + "b"); !slices.Equal(got, []int{1, 4, 5}) {
		t.Errorf("of a long text: %v", got)
	}
	if got := m.Run(long + "\nb"); len(got) != 0 {
		t.Errorf("of a long text with a newline: %v", got)
	}
}

// P6.1: wrong arguments; a nil expression is told ahead of too many positions.
func TestNewErrors(t *testing.T) {
	a := setOf("a")
	for _, c := range []struct {
		name string
		l    []*regex.Node
		want api.Errno
	}{
		{"none", nil, api.ErrArg},
		{"an empty list", []*regex.Node{}, api.ErrArg},
		{"nil", []*regex.Node{nil}, api.ErrArg},
		{"a nil one last", []*regex.Node{a, a, nil}, api.ErrArg},
		{"a nil one behind too many", append(many(a, 2001), nil), api.ErrArg},
		{"a nil one behind a long one", []*regex.Node{regex.Cat(many(a, 3000)...), nil}, api.ErrArg},
		{"2000 expressions", many(a, 2000), api.OK},
		{"2001 expressions", many(a, 2001), api.ErrLong},
		{"2000 positions of one", []*regex.Node{regex.Cat(many(a, 2000)...)}, api.OK},
		{"2001 positions of one", []*regex.Node{regex.Cat(many(a, 2001)...)}, api.ErrLong},
		{"2001 alternatives", []*regex.Node{regex.Or(many(a, 2001)...)}, api.ErrLong},
		{"2000 of two", []*regex.Node{regex.Cat(many(a, 1500)...), regex.Or(many(a, 500)...)}, api.OK},
		{"2001 of two", []*regex.Node{regex.Cat(many(a, 1500)...), regex.Or(many(a, 501)...)}, api.ErrLong},
		{"2001 Sets of no bytes", many(regex.Or(), 2001), api.ErrLong},
		{"no position at all", many(regex.Star(regex.Empty()), 3000), api.OK},
	} {
		m, err := nfa.New(c.l...)
		if err != c.want || (m != nil) != (c.want == api.OK) {
			t.Errorf("%s: %v, %d", c.name, m != nil, err)
		}
	}
}

// P6.1: expressions and positions that aren't there.
func TestNoSuch(t *testing.T) {
	m := machine(t, parsed(t, "ab", "c*")...)
	for _, n := range []int{-1, 2, 3, 64, 1 << 40, -1 << 63, 1<<63 - 1} {
		if len(m.First(n)) != 0 || len(m.Last(n)) != 0 || m.Empty(n) {
			t.Errorf("expression %d: %v, %v, %v", n, m.First(n), m.Last(n), m.Empty(n))
		}
	}
	for _, p := range []int{-1, 3, 4, 64, 1 << 40, -1 << 63, 1<<63 - 1} {
		if len(m.Follow(p)) != 0 || m.Rule(p) != -1 || m.Has(p, 'a') {
			t.Errorf("position %d: %v, %d, %v", p, m.Follow(p), m.Rule(p), m.Has(p, 'a'))
		}
	}
}

// P6.2: of a nil machine nothing is told; of one that no maker made, no call panics.
func TestNilMachine(t *testing.T) {
	for _, m := range []*nfa.Machine{nil, {}} {
		if m.Len() != 0 || m.Rules() != 0 || m.First(0) != nil || m.Last(0) != nil || m.Follow(0) != nil {
			t.Error("something is told")
		}
		if m.Rule(0) != -1 || m.Has(0, 0) || m.Empty(0) || m.Run("") != nil || m.Run("a") != nil {
			t.Error("something is told")
		}
	}
}

// What is handed in is neither changed nor kept, and what is answered is new.
func TestApart(t *testing.T) {
	a, b := setOf("a"), setOf("b")
	l := []*regex.Node{regex.Star(a), regex.Cat(a, b), b}
	m := machine(t, l[:2]...)
	l[0], l[1] = b, b
	for _, list := range [][]int{m.First(0), m.Last(0), m.Follow(0), m.First(1), m.Run("a")} {
		for i := range list {
			list[i] = 77
		}
		_ = append(list, 78)
	}
	again := machine(t, regex.Star(a), regex.Cat(a, b))
	for rule := range 2 {
		if !slices.Equal(m.First(rule), again.First(rule)) || !slices.Equal(m.Last(rule), again.Last(rule)) {
			t.Errorf("expression %d: %v, %v", rule, m.First(rule), m.Last(rule))
		}
	}
	for p := range 3 {
		if !slices.Equal(m.Follow(p), again.Follow(p)) {
			t.Errorf("Follow(%d): %v", p, m.Follow(p))
		}
	}
	if got := m.Run("a"); !slices.Equal(got, []int{0}) {
		t.Errorf("Run: %v", got)
	}
}
