package dfa_test

import (
	"math/rand"
	"slices"
	"strconv"
	"strings"
	"testing"

	"frisket/api"
	"frisket/dfa"
	"frisket/nfa"
	"frisket/regex"
)

// setOf is a Set of a text's bytes.
func setOf(s string) *regex.Node {
	var set [4]uint64
	for _, c := range []byte(s) {
		set[c/64] |= 1 << (c % 64)
	}
	return regex.Set(set)
}

// machine is the machine of expressions that are written.
func machine(t testing.TB, written ...string) *nfa.Machine {
	t.Helper()
	var l []*regex.Node
	for _, s := range written {
		n, at, err := regex.Parse(s)
		if err != api.OK {
			t.Fatalf("Parse(%q): %d, %d", s, at, err)
		}
		l = append(l, n)
	}
	return machineOf(t, l...)
}

// machineOf is the machine of expressions.
func machineOf(t testing.TB, l ...*regex.Node) *nfa.Machine {
	t.Helper()
	m, err := nfa.New(l...)
	if err != api.OK {
		t.Fatalf("nfa.New: %d", err)
	}
	return m
}

// automaton is the automaton of a machine.
func automaton(t testing.TB, m *nfa.Machine) *dfa.Dfa {
	t.Helper()
	d, err := dfa.New(m)
	if d == nil || err != api.OK {
		t.Fatalf("New: %v, %d", d, err)
	}
	return d
}

// many is a node, many times.
func many(n *regex.Node, times int) []*regex.Node {
	return slices.Repeat([]*regex.Node{n}, times)
}

// texts are all texts of some bytes, up to a length.
func texts(bytes string, most int) []string {
	all := []string{""}
	for i := 0; i < len(all); i++ {
		for j := range len(bytes) {
			if len(all[i]) < most {
				all = append(all, all[i]+bytes[j:j+1])
			}
		}
	}
	return all
}

// model is the automaton as the chapter's words make it, byte by byte.
type model struct {
	states [][]int
	next   [][256]int
}

// modelOf makes it.
func modelOf(m *nfa.Machine) model {
	var w model
	w.states = [][]int{nil}
	for n := 0; n < len(w.states); n++ {
		ahead := aheadOf(m, n, w.states[n])
		var row [256]int
		for b := range 256 {
			var at []int
			for _, p := range ahead {
				if m.Has(p, byte(b)) {
					at = append(at, p)
				}
			}
			row[b] = -1
			if at == nil {
				continue
			}
			row[b] = slices.IndexFunc(w.states, func(l []int) bool { return slices.Equal(l, at) })
			if row[b] < 0 {
				row[b] = len(w.states)
				w.states = append(w.states, at)
			}
		}
		w.next = append(w.next, row)
	}
	return w
}

// aheadOf is the positions that may stand behind those of a state.
func aheadOf(m *nfa.Machine, n int, state []int) []int {
	var ahead []int
	if n == 0 {
		for rule := range m.Rules() {
			ahead = append(ahead, m.First(rule)...)
		}
	}
	for _, p := range state {
		ahead = append(ahead, m.Follow(p)...)
	}
	slices.Sort(ahead)
	return slices.Compact(ahead)
}

// accepts is the least expression that has one of some positions among its Last ones.
func accepts(m *nfa.Machine, state []int) int {
	for rule := range m.Rules() {
		for _, p := range m.Last(rule) {
			if slices.Contains(state, p) {
				return rule
			}
		}
	}
	return -1
}

// check holds an automaton against the model.
func check(t *testing.T, m *nfa.Machine) {
	t.Helper()
	d, w := automaton(t, m), modelOf(m)
	if d.States() != len(w.states) {
		t.Fatalf("States: %d, not %d", d.States(), len(w.states))
	}
	for n, state := range w.states {
		if got := d.Positions(n); !slices.Equal(got, state) {
			t.Fatalf("Positions(%d): %v, not %v", n, got, state)
		}
		if got := d.Accept(n); got != accepts(m, state) {
			t.Fatalf("Accept(%d) of %v: %d", n, state, got)
		}
		for b := range 256 {
			to, ok := d.Next(n, byte(b))
			if ok != (w.next[n][b] >= 0) || to != max(w.next[n][b], 0) {
				t.Fatalf("Next(%d, %d): %d, %v, not %d", n, b, to, ok, w.next[n][b])
			}
		}
	}
	checkClasses(t, d, w)
}

// checkClasses holds classes against each two bytes' ways.
func checkClasses(t *testing.T, d *dfa.Dfa, w model) {
	t.Helper()
	var first []int // the first byte of each class
	for b := range 256 {
		class := slices.IndexFunc(first, func(c int) bool {
			return !slices.ContainsFunc(w.next, func(row [256]int) bool { return row[b] != row[c] })
		})
		if class < 0 {
			class = len(first)
			first = append(first, b)
		}
		if got := d.Class(byte(b)); got != class {
			t.Fatalf("Class(%d): %d, not %d", b, got, class)
		}
	}
	if d.Classes() != len(first) {
		t.Fatalf("Classes: %d, not %d", d.Classes(), len(first))
	}
}

// checkTexts holds Run and Accept against what expressions mean.
func checkTexts(t *testing.T, all []string, l ...*regex.Node) {
	t.Helper()
	d := automaton(t, machineOf(t, l...))
	for _, s := range all {
		want := slices.IndexFunc(l, func(n *regex.Node) bool { return regex.Matches(n, s) })
		if s == "" {
			want = -1
		}
		n, ok := d.Run(s)
		if got := d.Accept(n); ok && got != want || !ok && (want >= 0 || n != 0) {
			t.Fatalf("%q leads to %d, %v, which accepts %d, not %d", s, n, ok, got, want)
		}
	}
}

// P7.1: the chapter's example.
func TestExample(t *testing.T) {
	d := automaton(t, machine(t, "ab", "a*"))
	for s, want := range map[string]int{"a": 1, "aa": 1, "aaa": 1, "ab": 0, "": -1} {
		if n, ok := d.Run(s); !ok || d.Accept(n) != want {
			t.Errorf("%q: %d, %v, accepts %d", s, n, ok, d.Accept(n))
		}
	}
	for _, s := range []string{"b", "aab", "aba", "x"} {
		if n, ok := d.Run(s); n != 0 || ok {
			t.Errorf("%q: %d, %v", s, n, ok)
		}
	}
}

// P7.1, P7.2: all that is told, of expressions of many kinds.
func TestWritten(t *testing.T) {
	for _, l := range [][]string{
		{"a"}, {""}, {"", "()*"}, {"ab*"}, {"if", "[a-z]+"}, {"[a-z]+", "if"},
		{"a", "a", "a"}, {"ba|ab", "a|b"}, {"(a|b)*abb"}, {"(a|b)*a(a|b)(a|b)"},
		{"[a-z][a-z0-9]*", "[0-9]+", `\s+|\n|\t`, "==?", "<=?", `\(`, `"[^"\n]*"`, "//.*"},
		{".", `[^\n]`, `\x00`, `\xff`}, {`[\x00-\xff]`}, {`[\x00-\xff]*`, `\xff\x00`},
		{"z", "y", "x"}, {"abc|abd"}, {"a?b?c?d?"}, {"(a*b*)*c"}, {`[^\x00-\xff]`}, {`a[^\x00-\xff]b|ac`},
	} {
		check(t, machine(t, l...))
	}
}

// P7.1: states are numbered as they are met: state by state, bytes rising.
func TestNumbers(t *testing.T) {
	d := automaton(t, machine(t, `b\x00`, "ac", `\xffd`))
	for i, s := range []string{"", "a", "b", "\xff", "ac", "b\x00", "\xffd"} {
		if n, ok := d.Run(s); n != i || !ok {
			t.Errorf("%q: %d, %v, not %d", s, n, ok, i)
		}
	}
	if d.States() != 7 {
		t.Errorf("States: %d", d.States())
	}
}

// P7.1: state 0 is never come back to, has no positions and accepts nothing, even if an expression means the empty text.
func TestStateZero(t *testing.T) {
	for _, s := range []string{"a*", "", "(a|b)*", "a"} {
		d := automaton(t, machine(t, s))
		if d.Accept(0) != -1 || d.Positions(0) != nil {
			t.Errorf("%s: state 0 accepts %d at %v", s, d.Accept(0), d.Positions(0))
		}
		if n, ok := d.Run(""); n != 0 || !ok {
			t.Errorf("%s: the empty text leads to %d, %v", s, n, ok)
		}
		for n := range d.States() {
			for b := range 256 {
				if to, ok := d.Next(n, byte(b)); to == 0 && ok {
					t.Errorf("%s: byte %d leads from %d to 0", s, b, n)
				}
			}
		}
	}
}

// P7.2: classes hang on where bytes lead, not on Sets that no text comes to.
func TestClasses(t *testing.T) {
	for _, c := range []struct {
		l    []string
		want int
		of   map[byte]int
	}{
		{[]string{""}, 1, map[byte]int{0: 0, 'a': 0, 255: 0}},
		{[]string{"[a-c]"}, 2, map[byte]int{0: 0, 'a': 1, 'c': 1, 'd': 0, 255: 0}},
		{[]string{`[\x00z]`, `\xff`}, 3, map[byte]int{0: 0, 'z': 0, 1: 1, 'y': 1, 254: 1, 255: 2}},
		{[]string{`[\x00-\xff]`}, 1, map[byte]int{0: 0, 255: 0}},
		{[]string{`a[^\x00-\xff]b`}, 2, map[byte]int{0: 0, 'a': 1, 'b': 0}},
		{[]string{`[^\x00-\xff]a`}, 1, map[byte]int{'a': 0, 'b': 0}},
		{[]string{"if", "[a-z]+"}, 4, map[byte]int{0: 0, 'a': 1, 'f': 2, 'g': 1, 'i': 3}},
	} {
		d := automaton(t, machine(t, c.l...))
		if d.Classes() != c.want {
			t.Errorf("%q: %d classes", c.l, d.Classes())
		}
		for b, class := range c.of {
			if d.Class(b) != class {
				t.Errorf("%q: byte %d is of class %d", c.l, b, d.Class(b))
			}
		}
	}
	var letters []*regex.Node
	for b := range 256 {
		letters = append(letters, setOf(string([]byte{byte(b)})))
	}
	d := automaton(t, machineOf(t, letters...))
	for b := range 256 {
		if n, ok := d.Next(0, byte(b)); !ok || n != b+1 || d.Accept(n) != b || d.Class(byte(b)) != b {
			t.Errorf("byte %d: to %d, %v, of class %d", b, n, ok, d.Class(byte(b)))
		}
	}
}

// P7.1, P7.2, P7.3: several expressions, of nodes that stand here and there.
func TestSeveral(t *testing.T) {
	random := rand.New(rand.NewSource(8))
	all := texts("abc", 5)
	for range 400 {
		l := []*regex.Node{regex.Empty(), setOf("a"), setOf("b"), setOf("ab"), setOf("bc"), setOf("")}
		for len(l) < 14 {
			a, b := l[random.Intn(len(l))], l[random.Intn(len(l))]
			if n := []*regex.Node{regex.Cat(a, b), regex.Or(a, b), regex.Star(a)}[random.Intn(3)]; regex.Size(n) < 25 {
				l = append(l, n)
			}
		}
		random.Shuffle(len(l), func(i, j int) { l[i], l[j] = l[j], l[i] })
		some := l[:1+random.Intn(6)]
		check(t, machineOf(t, some...))
		checkTexts(t, all, some...)
	}
}

// P7.1: wrong arguments, and as many states as may be.
func TestNewErrors(t *testing.T) {
	a := setOf("a")
	if d, err := dfa.New(nil); d != nil || err != api.ErrArg {
		t.Errorf("New(nil): %v, %d", d, err)
	}
	for _, c := range []struct {
		name string
		m    *nfa.Machine
		want int // states; 0 for too many
	}{
		{"a row of 1999", machineOf(t, regex.Cat(many(a, 1999)...)), 2000},
		{"a row of 2000", machineOf(t, regex.Cat(many(a, 2000)...)), 0},
		{"2000 of one byte", machineOf(t, many(a, 2000)...), 2},
		{"the ninth from behind", machine(t, "(a|b)*a"+strings.Repeat("(a|b)", 8)), 1 + 1<<9},
		{"the eleventh from behind", machine(t, "(a|b)*a"+strings.Repeat("(a|b)", 10)), 0},
		{"the thirtieth from behind", machine(t, "[ab]*a"+strings.Repeat("[ab]", 29)), 0},
		{"nothing", machine(t, ""), 1},
	} {
		d, err := dfa.New(c.m)
		if c.want == 0 && (d != nil || err != api.ErrLong) {
			t.Errorf("%s: %d states, %d", c.name, d.States(), err)
		}
		if c.want > 0 && (d.States() != c.want || err != api.OK) {
			t.Errorf("%s: %d states, %d", c.name, d.States(), err)
		}
	}
}

// P7.2: a byte that leads somewhere from one state alone, whatever the numbers of states.
func TestClassesOfManyStates(t *testing.T) {
	for _, at := range []int{0, 1, 126, 127, 254, 255, 256, 510, 511, 1022, 1998} {
		row := many(setOf("a"), 1999)
		row[at] = setOf("b")
		d := automaton(t, machineOf(t, regex.Cat(row...)))
		if d.Classes() != 3 || d.Class('a') != 1 || d.Class('b') != 2 || d.Class('c') != 0 {
			t.Errorf("b leads to %d alone: %d classes, that of b is %d", at+1, d.Classes(), d.Class('b'))
		}
		text := strings.Repeat("a", at) + "b"
		if n, ok := d.Run(text); n != at+1 || !ok {
			t.Errorf("b leads to %d, %v, not %d", n, ok, at+1)
		}
		if n, ok := d.Run(text[:at] + "c"); n != 0 || ok {
			t.Errorf("c leads to %d, %v", n, ok)
		}
	}
}

// P7.1: very many positions in a state.
func TestManyPositions(t *testing.T) {
	var l []*regex.Node
	for i := range 2000 {
		l = append(l, setOf(strconv.Itoa(i%10)))
	}
	d := automaton(t, machineOf(t, regex.Star(regex.Or(l...))))
	if d.States() != 11 || d.Classes() != 11 || len(d.Positions(10)) != 200 || d.Positions(10)[199] != 1999 {
		t.Errorf("%d states, %d classes, %d positions", d.States(), d.Classes(), len(d.Positions(10)))
	}
	if n, ok := d.Run(strings.Repeat("0123456789", 1<<15)); n != 10 || !ok || d.Accept(n) != 0 {
		t.Errorf("of a long text: %d, %v", n, ok)
	}
}

// P7.1: states that aren't there.
func TestNoSuch(t *testing.T) {
	d := automaton(t, machine(t, "[a-b]*"))
	for _, n := range []int{-1, d.States(), 64, 1 << 40, -1 << 63, 1<<63 - 1} {
		if to, ok := d.Next(n, 'a'); to != 0 || ok {
			t.Errorf("Next of state %d: %d, %v", n, to, ok)
		}
		if d.Accept(n) != -1 || len(d.Positions(n)) != 0 {
			t.Errorf("state %d: %d, %v", n, d.Accept(n), d.Positions(n))
		}
	}
}

// P7.2: of a nil automaton nothing is told; of what no maker made, no call panics.
func TestNil(t *testing.T) {
	var d *dfa.Dfa
	n, ok := d.Run("")
	if d.States() != 0 || d.Accept(0) != -1 || d.Positions(0) != nil || n != 0 || ok {
		t.Error("something is told")
	}
	n, ok = d.Next(0, 'a')
	if n != 0 || ok || d.Classes() != 0 || d.Class('a') != -1 {
		t.Error("something is told")
	}
	made, _ := dfa.New(&nfa.Machine{})
	for _, d := range []*dfa.Dfa{{}, made} {
		d.Run("")
		d.Run("a")
		d.Next(0, 'a')
		d.Class('a')
		if d.Accept(0) != -1 || d.Positions(0) != nil {
			t.Error("of no machine something is told")
		}
	}
}

// What is answered is new.
func TestApart(t *testing.T) {
	d := automaton(t, machine(t, "(a|b)*", "[ab]"))
	want := d.Positions(1)
	l := d.Positions(1)
	for i := range l {
		l[i] = 77
	}
	_ = append(l[:1], 78)
	if got := d.Positions(1); !slices.Equal(got, want) || len(got) == 0 {
		t.Errorf("Positions(1): %v, not %v", got, want)
	}
}
