package regex_test

import (
	"math/rand"
	"strings"
	"testing"

	"frisket/api"
	"frisket/regex"
)

// checkFault holds a text that is no expression against the place that Parse tells.
func checkFault(t *testing.T, s string, place int, want api.Errno) {
	t.Helper()
	if n, at, err := regex.Parse(s); n != nil || at != place || err != want {
		t.Errorf("Parse(%.60q): %.60s, %d, %d; want %d, %d", s, shown(n), at, err, place, want)
	}
}

// checkShape holds what is written against the expression.
func checkShape(t *testing.T, s, want string) {
	t.Helper()
	if n, at, err := regex.Parse(s); shown(n) != want || at != 0 || err != api.OK {
		t.Errorf("Parse(%.60q): %.90s, %d, %d; want %.90s", s, shown(n), at, err, want)
	}
}

// P5.1: alternatives, factors, atoms and what stands behind them.
func TestParseShapes(t *testing.T) {
	for _, c := range []struct{ s, want string }{
		{"", "E"},
		{"a", `"a"`},
		{"abc", `C("a" C("b" "c"))`},
		{"a|b|c", `O("a" O("b" "c"))`},
		{"|", "O(E E)"},
		{"a||", `O("a" O(E E))`},
		{"ab|cd", `O(C("a" "b") C("c" "d"))`},
		{"()", "E"},
		{"(a)", `"a"`},
		{"((a))b", `C("a" "b")`},
		{"(ab)c", `C(C("a" "b") "c")`},
		{"(a|b)|c", `O(O("a" "b") "c")`},
		{"a(|b)", `C("a" O(E "b"))`},
		{"()*", "S(E)"},
		{"a*", `S("a")`},
		{"a+", `C("a" S("a"))`},
		{"a?", `O("a" E)`},
		{"ab*", `C("a" S("b"))`},
		{"(ab)*", `S(C("a" "b"))`},
		{"a*?", `O(S("a") E)`},
		{"a?+", `C(O("a" E) S(O("a" E)))`},
		{"a**", `S(S("a"))`},
		{"(a|b)+c", `C(C(O("a" "b") S(O("a" "b"))) "c")`},
		{".", shownSet(allBut("\n"))},
		{"[a]", `"a"`},
		{"[cab]", `"abc"`},
		{"[a-c]", `"abc"`},
		{"[a-a]", `"a"`},
		{"[a-cx0-2]", `"012abcx"`},
		{"[a-cb-d]", `"abcd"`},
		{"[^a]", shownSet(allBut("a"))},
		{"[^a-cx]", shownSet(allBut("abcx"))},
		{`[^\x00-\xff]`, `""`},
		{`[\x00-\xff]`, shownSet(allBut(""))},
		{"[|*+?()[.]", shownSet(setOf("|*+?()[."))},
		{`[\]\^\-\\]`, shownSet(setOf(`]^-\`))},
		{`[\^-a]`, shownSet(setOf("^_`a"))},
		{`[+-\-]`, shownSet(setOf("+,-"))},
		{`[^\^]`, shownSet(allBut("^"))},
		{`[\n\t\s]`, shownSet(setOf("\n\t "))},
		{`[\t-\n]`, shownSet(setOf("\t\n"))},
		{"^-", `C("^" "-")`},
		{`\|`, `"|"`},
		{`\n\t\s`, `C("\n" C("\t" " "))`},
		{`\x00\xff\x0a\xa9`, `C("\x00" C("\xff" C("\n" "\xa9")))`},
		{`\x411`, `C("A" "1")`},
	} {
		checkShape(t, c.s, c.want)
	}
}

// P5.1: each byte by itself, behind a backslash, and in a class.
func TestParseLetters(t *testing.T) {
	for c := range 256 {
		s := string([]byte{byte(c)})
		letter := c > 32 && c < 127
		meant := map[string]string{"n": "\n", "t": "\t", "s": " "}[s]
		switch {
		case s == "*" || s == "+" || s == "?" || s == ")" || s == "]" || !letter:
			checkFault(t, s, 0, api.ErrForm)
			checkFault(t, "a|b"+"|"+s, 4, api.ErrForm)
		case s == "(" || s == "[" || s == `\`:
			checkFault(t, s, 1, api.ErrForm)
		case s == "|":
			checkShape(t, s, "O(E E)")
		case s == ".":
			checkShape(t, s, shownSet(allBut("\n")))
		default:
			checkShape(t, s, shownSet(setOf(s)))
		}
		switch {
		case strings.Contains(`|*+?()[].\`, s):
			checkShape(t, `\`+s, shownSet(setOf(s)))
		case meant != "":
			checkShape(t, `\`+s, shownSet(setOf(meant)))
		case s == "x":
			checkFault(t, `\`+s, 2, api.ErrForm)
		default:
			checkFault(t, `\`+s+"a", 1, api.ErrForm)
		}
		switch {
		case s == `\`:
			checkFault(t, `[`+s, 2, api.ErrForm)
			checkShape(t, `[\\]`, shownSet(setOf(s)))
		case strings.Contains("]^-", s):
			checkFault(t, `[^`+s+"a]", 2, api.ErrForm)
			checkShape(t, `[\`+s+`]`, shownSet(setOf(s)))
		case !letter:
			checkFault(t, "[a"+s+"]", 2, api.ErrForm)
			checkFault(t, `[\`+s+`]`, 2, api.ErrForm)
		case meant != "":
			checkShape(t, `[\`+s+`]`, shownSet(setOf(meant)))
		case s == "x":
			checkFault(t, `[\`+s+`]`, 3, api.ErrForm)
		default:
			checkShape(t, "[^"+s+"]", shownSet(allBut(s)))
			checkFault(t, `[\`+s+`]`, 2, api.ErrForm)
		}
	}
}

// P5.1: every two bytes behind a backslash and x.
func TestParseHex(t *testing.T) {
	const digits = "0123456789abcdef"
	for first := range 256 {
		for second := range 256 {
			s := `a\x` + string([]byte{byte(first), byte(second)})
			high, low := strings.IndexByte(digits, byte(first)), strings.IndexByte(digits, byte(second))
			n, at, err := regex.Parse(s)
			switch {
			case high < 0:
				checkFault(t, s, 3, api.ErrForm)
			case low < 0:
				checkFault(t, s, 4, api.ErrForm)
			case at != 0 || err != api.OK || regex.Bytes(regex.Parts(n)[1]) != setOf(string([]byte{byte(high*16 + low)})):
				t.Errorf("Parse(%q): %s, %d, %d", s, shown(n), at, err)
			}
		}
	}
}

// P5.1: where it can't go on.
func TestParsePlaces(t *testing.T) {
	for _, c := range []struct {
		s     string
		place int
	}{
		{"ab)", 2}, {")", 0}, {"(a))b", 3}, {"a|)", 2}, {"()())", 4},
		{"*", 0}, {"a|*", 2}, {"(+", 1}, {"a(?b)", 2}, {"|+", 1}, {"()|(*)", 4},
		{"(", 1}, {"(a", 2}, {"((a)", 4}, {"(a|", 3}, {"a(b*", 4},
		{"a b", 1}, {"a\n", 1}, {"ab\x7f", 2}, {"\x80", 0}, {"\x00", 0}, {"a\x00", 1},
		{"]", 0}, {"a]", 1}, {"[a]]", 3},
		{"[", 1}, {"[]", 1}, {"[]]", 1}, {"[^", 2}, {"[^]", 2}, {"[^]a]", 2}, {"[a", 2}, {"[^a", 3},
		{"[a-", 3}, {"[a-]", 3}, {"[-a]", 1}, {"[^-a]", 2}, {"[a--]", 3}, {"[a-b-c]", 4}, {"[a^]", 2}, {"[^^]", 2}, {"[a-^]", 3}, {"[a\x00]", 2}, {"[a b]", 2},
		{"[b-a]", 3}, {"[xb-a]", 4}, {"[^b-a", 4}, {"[a-cb-a]", 6}, {`[b-\x61]`, 3}, {`[b-\n]`, 3}, {`[\xff-\xfe]`, 6}, {`[\n-\t`, 4},
		{`[b-\x6`, 6}, {`[b-\x6g]`, 6}, {`[b-\`, 4}, {`[b-\q]`, 4}, {`[a\`, 3}, {`[\.]`, 2}, {`[\x`, 3}, {`[\x4`, 4},
		{`\`, 1}, {`a\`, 2}, {`\q`, 1}, {`\^`, 1}, {`\-`, 1}, {`\ `, 1}, {`\x`, 2}, {`\x4`, 3}, {`\xg1`, 2}, {`\x1g`, 3}, {`\xA1`, 2}, {`\x1A`, 3}, {`(\`, 2}, {`\X41`, 1}, {"\\\x00", 1}, {"\\x\x00", 2},
		{"(*)", 1}, {"(]", 1}, {"a)(", 1},
	} {
		checkFault(t, c.s, c.place, api.ErrForm)
	}
}

// P5.1: at most so many nodes, and brackets so deep; what is none is told first.
func TestParseLong(t *testing.T) {
	row := func(s string, times int) string { return strings.Repeat(s, times) }
	deep := func(times int, s string) string { return row("(", times) + s + row(")", times) }
	for _, c := range []struct {
		s    string
		size int
	}{
		{row("a", 200), 399}, {row("a", 200) + "*", 400}, {row("a", 198) + "a?", 399}, {row("[a-z]|", 199) + ".", 399},
		{row("|", 199), 399}, {row("|", 199) + "a*", 400}, {row("()", 200), 399}, {"a" + row("*", 399), 400}, {"a" + row("?", 199), 399}, {"a" + row("?", 199) + "*", 400},
		{"a" + row("+", 7), 382}, {"(" + row("a", 100) + ")+", 400}, {deep(50, "a"), 1}, {deep(50, row("a", 200)), 399}, {row(deep(50, "a"), 200), 399}, {deep(50, "[a]"), 1}, {"(" + deep(49, "a") + deep(49, "b") + ")", 3},
	} {
		if n, at, err := regex.Parse(c.s); regex.Size(n) != c.size || at != 0 || err != api.OK {
			t.Errorf("Parse(%.60q): %d nodes, %d, %d; want %d", c.s, regex.Size(n), at, err, c.size)
		}
	}
	for _, s := range []string{
		row("a", 201), row("a", 200) + "**", row("a", 200) + "?", row("|", 200), row("|", 199) + "a**", row("()", 201), "a" + row("*", 400), "a" + row("?", 200), "a" + row("+", 8), "(" + row("a", 100) + ")+*", "(" + row("a", 99) + "a*)+", row("a", 199) + "a+",
		deep(51, "a"), deep(51, ""), "a|" + deep(51, "a") + "b", deep(100, "a"), row(deep(50, "a"), 201), deep(49, "a"+deep(2, "b")),
		deep(1<<20, "a"), row("a", 1<<20), row("|", 1<<20), "a" + row("+", 1<<20), deep(1<<18, "a*|[^b-c]") + "+(b|)", row("(a|b)*", 1<<18),
		deep(50, row("a|", 100)+row("b", 102)),
	} {
		checkFault(t, s, 0, api.ErrLong)
	}
	for _, c := range []struct {
		s     string
		place int
	}{
		{deep(51, "a") + ")", 103}, {"]" + deep(51, "a"), 0}, {"*" + row("a", 201), 0}, {row("a", 201) + " ", 201}, {row("a", 201) + "|*", 202}, {row("a", 201) + "(", 202}, {row("a", 201) + ")", 201},
		{row("(", 51), 51}, {row("(", 51) + "*", 51}, {row("(", 51) + row(")", 50), 101}, {deep(51, "a") + "**" + `\q`, 106}, {deep(51, "[b-a]"), 54}, {row("a", 300) + `[^a-\x4]`, 307},
		{row("(", 1<<20), 1 << 20}, {row("|", 1<<20) + "]", 1 << 20}, {deep(60, "a") + "(" + deep(60, "b"), 243}, {row("a", 201) + "(|+)", 203}, {row("a", 201) + "++(+)", 204},
	} {
		checkFault(t, c.s, c.place, api.ErrForm)
	}
}

// model is an expression's text, read by one function a level that call one another.
type model struct {
	s    string
	at   int
	deep int
	most int
}

// fault is where a model's text can't go on.
type fault int

// modelled is what a text's model is: its shape, how many nodes and how deep; or its fault.
func modelled(s string) (shape string, size, most, place int) {
	m := &model{s: s}
	defer func() {
		if x := recover(); x != nil {
			shape, size, most, place = "", 0, 0, int(x.(fault))
		}
	}()
	shape, size = m.or()
	if m.at < len(s) {
		panic(fault(m.at))
	}
	return shape, size, m.most, -1
}

func (m *model) is(set string) bool {
	return m.at < len(m.s) && strings.IndexByte(set, m.s[m.at]) >= 0
}

func (m *model) want(set string) byte {
	if !m.is(set) {
		panic(fault(m.at))
	}
	m.at++
	return m.s[m.at-1]
}

func (m *model) or() (string, int) {
	shape, size := m.cat()
	if !m.is("|") {
		return shape, size
	}
	m.at++
	behind, more := m.or()
	return "O(" + shape + " " + behind + ")", 1 + size + more
}

func (m *model) cat() (string, int) {
	if m.at == len(m.s) || m.is("|)") {
		return "E", 1
	}
	shape, size := m.factor()
	if m.at == len(m.s) || m.is("|)") {
		return shape, size
	}
	behind, more := m.cat()
	return "C(" + shape + " " + behind + ")", 1 + size + more
}

func (m *model) factor() (string, int) {
	shape, size := m.atom()
	for m.is("*+?") {
		switch m.want("*+?") {
		case '*':
			shape, size = "S("+shape+")", size+1
		case '+':
			shape, size = "C("+shape+" S("+shape+"))", 2*size+2
		case '?':
			shape, size = "O("+shape+" E)", size+2
		}
	}
	return shape, size
}

func (m *model) atom() (string, int) {
	switch {
	case m.is("("):
		m.at++
		m.deep++
		m.most = max(m.most, m.deep)
		shape, size := m.or()
		m.want(")")
		m.deep--
		return shape, size
	case m.is("."):
		m.at++
		return shownSet(allBut("\n")), 1
	case m.is("["):
		m.at++
		return m.class(), 1
	}
	return shownSet(setOf(m.letter(`|*+?()[].\`))), 1
}

func (m *model) class() string {
	turn := setOf
	if m.is("^") {
		m.at++
		turn = allBut
	}
	all := ""
	for first := true; first || !m.is("]"); first = false {
		low := m.letter(`]^-\`)
		high := low
		if m.is("-") {
			m.at++
			place := m.at
			high = m.letter(`]^-\`)
			if high < low {
				panic(fault(place))
			}
		}
		for c := int(low[0]); c <= int(high[0]); c++ {
			all += string([]byte{byte(c)})
		}
	}
	m.at++
	return shownSet(turn(all))
}

func (m *model) letter(special string) string {
	if m.at == len(m.s) || m.s[m.at] < 33 || m.s[m.at] > 126 || m.is(special) && !m.is(`\`) {
		panic(fault(m.at))
	}
	c := m.s[m.at]
	m.at++
	if c != '\\' {
		return string([]byte{c})
	}
	c = m.want(special + "ntsx")
	switch c {
	case 'n':
		return "\n"
	case 't':
		return "\t"
	case 's':
		return " "
	case 'x':
		const digits = "0123456789abcdef"
		high := m.want(digits)
		low := m.want(digits)
		return string([]byte{byte(strings.IndexByte(digits, high)*16 + strings.IndexByte(digits, low))})
	}
	return string([]byte{c})
}

// checkModel holds what Parse answers against the model.
func checkModel(t *testing.T, s string) {
	t.Helper()
	shape, size, most, place := modelled(s)
	n, at, err := regex.Parse(s)
	switch {
	case place >= 0:
		if n != nil || at != place || err != api.ErrForm {
			t.Fatalf("Parse(%q): %s, %d, %d; want the place %d", s, shown(n), at, err, place)
		}
	case size > api.MaxRegex || most > 50:
		if n != nil || at != 0 || err != api.ErrLong {
			t.Fatalf("Parse(%q): %d, %d; want it to be too long", s, at, err)
		}
	case shown(n) != shape || regex.Size(n) != size || at != 0 || err != api.OK:
		t.Fatalf("Parse(%q): %s, %d, %d; want %s", s, shown(n), at, err, shape)
	}
}

// P5.1: every short text of bytes that mean something.
func TestParseEveryShortText(t *testing.T) {
	for _, s := range texts(`a*+?|().[`, 5) {
		checkModel(t, s)
	}
	for _, s := range texts(`bx-^]\n`, 6) {
		checkModel(t, "["+s)
	}
	for _, s := range texts(`a6x-\]`, 6) {
		checkModel(t, `[a-\`+s)
	}
	for _, s := range texts("b a)]\\\x00\xff", 4) {
		checkModel(t, s)
		checkModel(t, "(a|"+s)
	}
}

// P5.1: long texts, near to what is too long.
func TestParseLongTexts(t *testing.T) {
	random := rand.New(rand.NewSource(5))
	words := []string{"a", "b", "|", "*", "+", "?", "(", ")", "(((", ")))", "[a-c]", "(ab)", "()", "((a|b)+c)*", "abc", "abcdefgh", `\x61`, "|", "(", ")", "a", "a"}
	right := 0
	for range 10000 {
		s := ""
		for range random.Intn(120) {
			w := words[random.Intn(len(words))]
			if open := strings.Count(s, "(") - strings.Count(s, ")"); strings.Trim(w, ")") == "" && open < len(w) && random.Intn(50) > 0 {
				continue
			}
			if strings.Contains("*+?", w) && (s == "" || strings.ContainsAny(s[len(s)-1:], "(|")) && random.Intn(50) > 0 {
				continue
			}
			s += w
		}
		if open := strings.Count(s, "(") - strings.Count(s, ")"); open > 0 && random.Intn(20) > 0 {
			s += strings.Repeat(")", open)
		}
		checkModel(t, s)
		if _, _, err := regex.Parse(s); err == api.OK {
			right++
		}
	}
	if right < 2000 {
		t.Errorf("only %d of the texts were expressions", right)
	}
}

// P5.1, P5.2: the chapter's example, and others that are written.
func TestWrittenMeans(t *testing.T) {
	for _, c := range []struct{ s, means, not string }{
		{"[a-c]+x?", "abcx a bcx", "x abxx d"},
		{"if|else", "if else", "ifelse i"},
		{"(ab|[^a-y])*z?", "ab1abz z zz", "aba a"},
		{`\x2d?[0-9]+(\.[0-9]*)?`, "-1. 10 0.5", "- .5 1..2"},
		{`"[^"]*"`, `"" "a"`, `" """`},
	} {
		n := parsed(t, c.s)
		for _, s := range strings.Fields(c.means) {
			if !regex.Matches(n, s) {
				t.Errorf("%s doesn't mean %q", c.s, s)
			}
		}
		for _, s := range strings.Fields(c.not) {
			if regex.Matches(n, s) {
				t.Errorf("%s means %q", c.s, s)
			}
		}
	}
}
