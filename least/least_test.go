package least_test

import (
	"math/rand"
	"slices"
	"strings"
	"testing"

	"frisket/api"
	"frisket/dfa"
	"frisket/least"
	"frisket/nfa"
	"frisket/regex"
)

// setOf is a Set of a text's bytes.
func setOf(s string) *regex.Node {
	var set [4]uint64
	for _, c := range []byte(s) {
		set[c/64] |= 1 << (c % 64)
	}
	return regex.Set(set)
}

// automatonOf is the automaton of expressions.
func automatonOf(t testing.TB, l ...*regex.Node) *dfa.Dfa {
	t.Helper()
	m, err := nfa.New(l...)
	if err != api.OK {
		t.Fatalf("nfa.New: %d", err)
	}
	d, err := dfa.New(m)
	if err != api.OK {
		t.Fatalf("dfa.New: %d", err)
	}
	return d
}

// automaton is that of expressions that are written.
func automaton(t testing.TB, written ...string) *dfa.Dfa {
	t.Helper()
	var l []*regex.Node
	for _, s := range written {
		n, at, err := regex.Parse(s)
		if err != api.OK {
			t.Fatalf("Parse(%q): %d, %d", s, at, err)
		}
		l = append(l, n)
	}
	return automatonOf(t, l...)
}

// leastOf is the least automaton of one.
func leastOf(t testing.TB, d *dfa.Dfa) *least.Least {
	t.Helper()
	l, err := least.New(d)
	if l == nil || err != api.OK {
		t.Fatalf("New: %v, %d", l, err)
	}
	return l
}

// walker is what both automata have.
type walker interface {
	States() int
	Next(state int, b byte) (int, bool)
	Accept(state int) int
}

// unlike tells of each two states whether some text tells them apart; the one behind all states stands for none, which accepts nothing.
func unlike(w walker) [][]bool {
	none := w.States()
	next := make([][256]int, none+1)
	apart := make([][]bool, none+1)
	for i := range apart {
		apart[i] = make([]bool, none+1)
		for j := range apart {
			apart[i][j] = w.Accept(i) != w.Accept(j)
		}
		for b := range 256 {
			next[i][b] = none
			if to, ok := w.Next(i, byte(b)); ok {
				next[i][b] = to
			}
		}
	}
	for more := true; more; {
		more = false
		for i := range apart {
			for j := range i {
				for b := 0; b < 256 && !apart[i][j]; b++ {
					if apart[next[i][b]][next[j][b]] {
						apart[i][j], apart[j][i], more = true, true, true
					}
				}
			}
		}
	}
	return apart
}

// model is the least automaton as the chapter's words make it.
type model struct {
	of     []int // of each state of the other one; -1 of dead ones
	accept []int
	next   [][256]int
}

// modelOf makes it.
func modelOf(d *dfa.Dfa) model {
	apart, none := unlike(d), d.States()
	var w model
	var met []int
	number := func(state int, ok bool) int {
		if !ok || !apart[state][none] && state != 0 {
			return -1
		}
		n := slices.IndexFunc(met, func(other int) bool { return !apart[state][other] })
		if n < 0 {
			n = len(met)
			met = append(met, state)
		}
		return n
	}
	number(0, true)
	for n := 0; n < len(met); n++ {
		var row [256]int
		for b := range 256 {
			row[b] = number(d.Next(met[n], byte(b)))
		}
		w.next = append(w.next, row)
		w.accept = append(w.accept, d.Accept(met[n]))
	}
	for state := range d.States() {
		w.of = append(w.of, number(state, true))
	}
	return w
}

// run is the state to which a text leads, or -1.
func (w model) run(s string) int {
	n := 0
	for i := 0; i < len(s) && n >= 0; i++ {
		n = w.next[n][s[i]]
	}
	return n
}

// longest is the longest beginning that is accepted, by each beginning's state.
func (w model) longest(s string) [3]int {
	rule, length := -1, 0
	for i := 1; i <= len(s); i++ {
		n := w.run(s[:i])
		if n < 0 {
			return [3]int{rule, length, i}
		}
		if w.accept[n] >= 0 {
			rule, length = w.accept[n], i
		}
	}
	return [3]int{rule, length, len(s)}
}

// longest is what is told of a text.
func longest(l *least.Least, s string) [3]int {
	rule, length, looked := l.Longest(s)
	return [3]int{rule, length, looked}
}

// check holds the least automaton of one against the model, and some texts.
func check(t *testing.T, d *dfa.Dfa, texts ...string) {
	t.Helper()
	l, w := leastOf(t, d), modelOf(d)
	if l.States() != len(w.next) || l.States() > d.States() {
		t.Fatalf("States: %d, not %d", l.States(), len(w.next))
	}
	for n, row := range w.next {
		if l.Accept(n) != w.accept[n] {
			t.Fatalf("Accept(%d): %d, not %d", n, l.Accept(n), w.accept[n])
		}
		for b, want := range row {
			if to, ok := l.Next(n, byte(b)); ok != (want >= 0) || to != max(want, 0) {
				t.Fatalf("Next(%d, %d): %d, %v, not %d", n, b, to, ok, want)
			}
		}
	}
	for n, want := range w.of {
		if got, ok := l.Of(n); ok != (want >= 0) || got != max(want, 0) {
			t.Fatalf("Of(%d): %d, %v, not %d", n, got, ok, want)
		}
	}
	for _, s := range texts {
		want := w.run(s)
		if n, ok := l.Run(s); ok != (want >= 0) || n != max(want, 0) {
			t.Fatalf("Run(%q): %d, %v, not %d", s, n, ok, want)
		}
		if got, want := longest(l, s), w.longest(s); got != want {
			t.Fatalf("Longest(%q): %v, not %v", s, got, want)
		}
	}
	for i, row := range unlike(l)[:l.States()] {
		if other := slices.Index(row[:i], false); other >= 0 || i > 0 && !row[l.States()] {
			t.Fatalf("state %d is alike to %d, or dead", i, other)
		}
	}
}

// texts are all texts of some bytes, up to a length.
func texts(bytes string, most int) []string {
	all := []string{""}
	for i := 0; i < len(all); i++ {
		for j := range len(bytes) {
			if len(all[i]) < most {
				all = append(all, all[i]+bytes[j:j+1])
			}
		}
	}
	return all
}

// P8.1: the chapter's example.
func TestExample(t *testing.T) {
	d := automaton(t, "abc|abd")
	l := leastOf(t, d)
	c, _ := d.Run("abc")
	e, _ := d.Run("abd")
	of, ok := l.Of(c)
	of2, ok2 := l.Of(e)
	if c == e || of != of2 || !ok || !ok2 || l.Accept(of) != 0 || l.States() != d.States()-1 {
		t.Errorf("abc: %d, %v; abd: %d, %v; %d states", of, ok, of2, ok2, l.States())
	}
}

// P8.1, P8.2, P8.3: all that is told, of expressions of many kinds.
func TestWritten(t *testing.T) {
	for _, l := range [][]string{
		{"a"}, {""}, {"", "()*"}, {"ab*"}, {"a*b"}, {"if", "[a-z]+"}, {"[a-z]+", "if"},
		{"a", "a", "a"}, {"ba|ab", "a|b"}, {"(a|b)*abb"}, {"(a|b)*a(a|b)(a|b)"},
		{"abc|abd", "xbc"}, {"abc", "abd"}, {"a+", "b+"}, {"a+|b+"}, {"(aa)*a|(bb)+b"},
		{"[a-z][a-z0-9]*", "[0-9]+", `\s+|\n|\t`, "==?", "<=?", `\(`, `"[^"\n]*"`, "//.*"},
		{".", `[^\n]`, `\x00`, `\xff`}, {`[\x00-\xff]`}, {`[\x00-\xff]*`, `\xff\x00`},
		{`[^\x00-\xff]`}, {`a[^\x00-\xff]b`}, {`a[^\x00-\xff]b|ac`}, {`ab[^\x00-\xff]|a`}, {`(ab)*[^\x00-\xff]`, "abb"},
		{"int", "intern", "in", "(i|n|t|e|r)+x"},
	} {
		check(t, automaton(t, l...), "", "a", "b", "ab", "aab", "aabb", "abdq", "abq", "ac", "intern", "inter", "if ", "x\x00", "\xff\x00")
	}
}

// P8.1: states are numbered as they are met: state by state, bytes rising, whatever their numbers in the other automaton.
func TestNumbers(t *testing.T) {
	d := automaton(t, `b[^\x00-\xff]|a\x00|c\xff|dz`, "cz")
	l := leastOf(t, d)
	for _, c := range []struct {
		s    string
		want int
	}{{"", 0}, {"a", 1}, {"c", 2}, {"d", 3}, {"a\x00", 4}, {"cz", 5}, {"c\xff", 4}, {"dz", 4}} {
		if n, ok := l.Run(c.s); n != c.want || !ok {
			t.Errorf("%q: %d, %v, not %d", c.s, n, ok, c.want)
		}
	}
	if l.States() != 6 || d.States() != 9 {
		t.Errorf("States: %d of %d", l.States(), d.States())
	}
	if n, ok := l.Run("b"); n != 0 || ok {
		t.Errorf("a dead state is come to: %d, %v", n, ok)
	}
}

// P8.1: the first state may be alike to another one: then it is come back to.
func TestFirstAgain(t *testing.T) {
	d := automaton(t, "a*b")
	l := leastOf(t, d)
	behind, _ := d.Run("aa")
	n, ok := l.Of(behind)
	if l.States() != 2 || n != 0 || !ok {
		t.Errorf("%d states; behind aa: %d, %v", l.States(), n, ok)
	}
	if n, ok := l.Run("aaa"); n != 0 || !ok {
		t.Errorf("aaa leads to %d, %v", n, ok)
	}
}

// P8.1: the first state stays, even if it is dead; other dead ones don't.
func TestDead(t *testing.T) {
	d := automaton(t, `ab[^\x00-\xff]`, `[^\x00-\xff]`)
	l := leastOf(t, d)
	if d.States() != 3 || l.States() != 1 || l.Accept(0) != -1 {
		t.Errorf("%d states of %d, the first accepts %d", l.States(), d.States(), l.Accept(0))
	}
	for n := range 3 {
		if of, ok := l.Of(n); of != 0 || ok != (n == 0) {
			t.Errorf("Of(%d): %d, %v", n, of, ok)
		}
	}
	if got := longest(l, "ab"); got != [3]int{-1, 0, 1} {
		t.Errorf("Longest: %v", got)
	}
}

// P8.2: the longest beginning, and how many bytes were looked at.
func TestLongest(t *testing.T) {
	l := leastOf(t, automaton(t, "a|abcd", "ab?", `x*`, `yz[^\x00-\xff]|y`))
	for s, want := range map[string][3]int{
		"":       {-1, 0, 0},
		"a":      {0, 1, 1},
		"ab":     {1, 2, 2},
		"abc":    {1, 2, 3},
		"abcx":   {1, 2, 4},
		"abcd":   {0, 4, 4},
		"abcda":  {0, 4, 5},
		"abcdab": {0, 4, 5},
		"aa":     {0, 1, 2},
		"b":      {-1, 0, 1},
		"ba":     {-1, 0, 1},
		"xx":     {2, 2, 2},
		"xxa":    {2, 2, 3},
		"yz":     {3, 1, 2},
		"yzz":    {3, 1, 2},
		"\xff":   {-1, 0, 1},
		"x\x00x": {2, 1, 2},
	} {
		if got := longest(l, s); got != want {
			t.Errorf("Longest(%q): %v, not %v", s, got, want)
		}
	}
}

// P8.2: a long text, of which all is looked at, whether or not it is taken.
func TestLongestOfLong(t *testing.T) {
	s := strings.Repeat("ab", 1<<19)
	for _, c := range []struct {
		expression string
		want       [3]int
	}{
		{"(ab)*", [3]int{0, 1 << 20, 1 << 20}},
		{"(ab)*c", [3]int{-1, 0, 1 << 20}},
		{"a|(ab)*c", [3]int{0, 1, 1 << 20}},
		{"a|b", [3]int{0, 1, 2}},
	} {
		if got := longest(leastOf(t, automaton(t, c.expression)), s); got != c.want {
			t.Errorf("%s: %v", c.expression, got)
		}
	}
}

// P8.1, P8.2, P8.3: several expressions, of nodes that stand here and there.
func TestSeveral(t *testing.T) {
	random := rand.New(rand.NewSource(5))
	all := texts("abc", 4)
	for range 300 {
		l := []*regex.Node{regex.Empty(), setOf("a"), setOf("b"), setOf("ab"), setOf("bc"), setOf("")}
		for len(l) < 16 {
			a, b := l[random.Intn(len(l))], l[random.Intn(len(l))]
			if n := []*regex.Node{regex.Cat(a, b), regex.Or(a, b), regex.Star(a)}[random.Intn(3)]; regex.Size(n) < 25 {
				l = append(l, n)
			}
		}
		random.Shuffle(len(l), func(i, j int) { l[i], l[j] = l[j], l[i] })
		check(t, automatonOf(t, l[:1+random.Intn(6)]...), all...)
	}
}

// P8.1, P8.3: many words, whose ends are alike in part.
func TestWords(t *testing.T) {
	random := rand.New(rand.NewSource(6))
	for range 20 {
		var l []*regex.Node
		var words []string
		for range 2 + random.Intn(12) {
			var word []*regex.Node
			s := ""
			for range 1 + random.Intn(7) {
				c := "abz\xff"[random.Intn(4)]
				word = append(word, setOf(string([]byte{c})))
				s += string([]byte{c})
			}
			l = append(l, regex.Cat(word...))
			words = append(words, s, s+"a", s[1:]+"b")
		}
		check(t, automatonOf(t, regex.Or(l...)), words...)
		check(t, automatonOf(t, l...), words...)
	}
}

// P8.1, P8.3: as many states as may be.
func TestManyStates(t *testing.T) {
	a := setOf("a")
	row := slices.Repeat([]*regex.Node{a}, 1999)
	for _, c := range []struct {
		name string
		d    *dfa.Dfa
		want int
	}{
		{"a row", automatonOf(t, regex.Cat(row...)), 2000},
		{"a row, each of it left out or not", automatonOf(t, regex.Cat(slices.Repeat([]*regex.Node{regex.Or(a, regex.Empty())}, 400)...)), 401},
		{"a row that goes round", automatonOf(t, regex.Cat(a, regex.Star(regex.Cat(row[:1000]...)))), 1000},
		{"rows that differ at once", automatonOf(t, regex.Or(regex.Cat(setOf("a"), regex.Cat(row[:900]...)), regex.Cat(setOf("b"), regex.Cat(row[:900]...)))), 902},
		{"one of each byte", automatonOf(t, bytesApart()...), 257},
		{"one of all bytes", automatonOf(t, regex.Or(bytesApart()...)), 2},
		{"the ninth from behind", automaton(t, "(a|b)*a"+strings.Repeat("(a|b)", 8)), 512},
		{"all accept", automatonOf(t, regex.Star(regex.Or(bytesApart()...))), 2},
	} {
		l := leastOf(t, c.d)
		if l.States() != c.want {
			t.Errorf("%s: %d states of %d, not %d", c.name, l.States(), c.d.States(), c.want)
		}
		for n := range c.d.States() {
			of, ok := l.Of(n)
			if !ok || l.Accept(of) != c.d.Accept(n) {
				t.Fatalf("%s: Of(%d): %d, %v", c.name, n, of, ok)
			}
			for b := range 256 {
				to, ok := c.d.Next(n, byte(b))
				want, _ := l.Of(to)
				if got, ok2 := l.Next(of, byte(b)); ok != ok2 || ok && got != want {
					t.Fatalf("%s: byte %d leads from %d to %d, %v, not %d", c.name, b, of, got, ok2, want)
				}
			}
		}
	}
}

// bytesApart is an expression for each byte.
func bytesApart() []*regex.Node {
	var l []*regex.Node
	for b := range 256 {
		l = append(l, setOf(string([]byte{byte(b)})))
	}
	return l
}

// P8.1: wrong arguments, and states that aren't there.
func TestNoSuch(t *testing.T) {
	if l, err := least.New(nil); l != nil || err != api.ErrArg {
		t.Errorf("New(nil): %v, %d", l, err)
	}
	d := automaton(t, "[a-b]*")
	l := leastOf(t, d)
	for _, n := range []int{-1, l.States(), d.States(), 64, 1 << 40, -1 << 63, 1<<63 - 1} {
		if to, ok := l.Next(n, 'a'); to != 0 || ok {
			t.Errorf("Next of state %d: %d, %v", n, to, ok)
		}
		if of, ok := l.Of(n); of != 0 || ok || l.Accept(n) != -1 {
			t.Errorf("state %d: %d, %v, %d", n, of, ok, l.Accept(n))
		}
	}
	if of, ok := leastOf(t, automaton(t, "abc|abd")).Of(4); of != 3 || !ok {
		t.Errorf("a state that the other one has alone: %d, %v", of, ok)
	}
}

// P8.2: of a nil one nothing is told; of what no maker made, no call panics.
func TestNil(t *testing.T) {
	var l *least.Least
	to, ok := l.Next(0, 'a')
	n, ok2 := l.Run("")
	of, ok3 := l.Of(0)
	if l.States() != 0 || to != 0 || ok || n != 0 || ok2 || of != 0 || ok3 || l.Accept(0) != -1 || longest(l, "a") != [3]int{-1, 0, 0} {
		t.Error("something is told")
	}
	empty, _ := least.New(&dfa.Dfa{})
	machine, _ := dfa.New(&nfa.Machine{})
	first, _ := least.New(machine)
	for _, l := range []*least.Least{{}, empty, first} {
		l.States()
		l.Run("")
		l.Run("a")
		l.Next(0, 'a')
		l.Accept(0)
		l.Of(0)
		l.Longest("")
		l.Longest("a")
	}
}
