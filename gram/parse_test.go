package gram_test

import (
	"strconv"
	"strings"
	"testing"

	"frisket/api"
	"frisket/gram"
)

// refused holds what is told of a text that has none.
func refused(t testing.TB, text string, line int, want api.Errno) {
	t.Helper()
	if g, n, err := gram.Parse(text); g != nil || n != line || err != want {
		t.Errorf("Parse(%.200q): %v, %d, %d, not %d, %d", text, g, n, err, line, want)
	}
}

// lines is so many lines, each made of its number.
func lines(count int, line func(i int) string) string {
	var b strings.Builder
	for i := range count {
		b.WriteString(line(i) + "\n")
	}
	return b.String()
}

// numbered is lines that end with their number.
func numbered(count int, words string) string {
	return lines(count, func(i int) string { return words + strconv.Itoa(i) })
}

// tokens is lines of classes.
func tokens(count int) string {
	return lines(count, func(i int) string { return "token t" + strconv.Itoa(i) + " a" })
}

// P11.1: the words of a line, and what they may be.
func TestWords(t *testing.T) {
	long := strings.Repeat("a", 20)
	for _, text := range []string{
		smallest,
		"sort " + long + "\nrule " + long + " 9 A" + long[1:] + " = " + long + ":0\n",
		"token a a\nsort s\nrule s 0 Aa0Z9 = a s:9 'a 'A '' '' '# ': '= '- 'x:0\n",
		"token li a\ntoken l1t a\ntoken token b\nlayout z0 c\nsort sort\nrule sort 5 A =\n",
		"sort s\nrule s 0 - = s:0\nrule s 0 - = 'a 'b s:3 'c\n",
		"sort s\nbracket s '( ')\n",
		"sort s\nrule s 0 A = '" + long + "\n",
		"token a #\nsort s\nrule s 0 A = a a a a a a a a a a a a\n",
		"#x\n#\n\n# y \n" + smallest,
		"token a " + strings.Repeat("a", 200) + "\n" + smallest,
	} {
		if g := parsed(t, text); len(g.Rules()) == 0 {
			t.Errorf("%q: no rules", text)
		}
	}
}

// P11.1: lines that can't stand.
func TestForm(t *testing.T) {
	tests := []string{
		"x", " ", "  ", "\t", "\r", " #", "x y", "Sort s", "sorts a", "rules s 0 A =", "tokens a a",
		"token", "token a", "token a ", "token  a", "token a a ", "token a a a", " token a a", "token a  a", "layout a", "layout a a b", "token A a", "token 1a a", "token a_ a", "token a\t a", "token lit a", "token lit7 a", "token little a", "token aaaaaaaaaaaaaaaaaaaaa a", "token \xe9 a",
		"sort", "sort ", "sort  a", "sort a ", "sort a b", "sort A", "sort 1", "sort a\r", "sort lita", "sort aB", "sort aaaaaaaaaaaaaaaaaaaaa", "sort a\x00",
		"rule", "rule s", "rule s 0", "rule s 0 A", "rule s 0 A ", "rule s 0 A =  ", "rule s 0 A = ", "rule s 0 A =a", "rule s 0 A == a", "rule s 0 A a", "rule s 0 = a", "rule  s 0 A =",
		"rule S 0 A =", "rule lit 0 A =", "rule  0 A =", "rule s: 0 A =", "rule s 10 A =", "rule s -1 A =", "rule s x A =", "rule s / A =", "rule s : A =", "rule s  A =", "rule s 00 A =",
		"rule s 0 a =", "rule s 0 1 =", "rule s 0  =", "rule s 0 A_ =", "rule s 0 A- =", "rule s 0 -- =", "rule s 0 Aaaaaaaaaaaaaaaaaaaaa =", "rule s 0 \xc3\x84 =",
		"rule s 0 A = '", "rule s 0 A = 'aaaaaaaaaaaaaaaaaaaaa", "rule s 0 A = A", "rule s 0 A = lit0", "rule s 0 A = a:", "rule s 0 A = a:x", "rule s 0 A = a:10", "rule s 0 A = a:0:1", "rule s 0 A = :0", "rule s 0 A = A:0", "rule s 0 A = lit:0", "rule s 0 A = a::", "rule s 0 A = aaaaaaaaaaaaaaaaaaaaa", "rule s 0 A = aaaaaaaaaaaaaaaaaaaaa:0", "rule s 0 A = \"a", "rule s 0 A = s:0  s:0", "rule s 0 A = s:0 ",
		"rule s 0 A = 'a 'a 'a 'a 'a 'a 'a 'a 'a 'a 'a 'a 'a", "rule s 0 A = a a a a a a a a a a a a a",
		"rule s 0 - =", "rule s 0 - = 'a", "rule s 0 - = s:0 s:0", "rule s 0 - = a", "rule s 0 - = s:0 a", "rule s 0 - = a 'x", "rule s 9 - = '( s:0 t:0 ')",
		"bracket", "bracket s", "bracket s '(", "bracket s '( ') 'x", "bracket s '( ", "bracket s  '( ')", "bracket s ( )", "bracket s '( )", "bracket s ( ')", "bracket s ' ')", "bracket s '( '", "bracket s s:0 ')", "bracket s '( a", "bracket s 'aaaaaaaaaaaaaaaaaaaaa ')", "bracket s '( 'aaaaaaaaaaaaaaaaaaaaa", "bracket S '( ')", "bracket lit '( ')", "bracket s:0 '( ')",
	}
	for _, line := range tests {
		want := api.ErrForm
		if line == "token a " {
			want = api.ErrVoid // the empty expression
		}
		refused(t, line+"\n", 1, want)
		refused(t, sums+"\n# x\n"+line+"\n"+smallest, 11, want)
		refused(t, line, 1, api.ErrForm)
	}
}

// P11.1: a line that isn't ended, even if it would count for nothing.
func TestEnded(t *testing.T) {
	for _, line := range []string{"sort b", "#", "# x", " ", "token b", "token e a", "rule e 0 A = x"} {
		refused(t, sums+line, 9, api.ErrForm)
	}
	refused(t, strings.TrimSuffix(sums, "\n"), 8, api.ErrForm)
	refused(t, "token a [\nsort b", 1, api.ErrForm)
	refused(t, "token a a*\nsort b", 1, api.ErrVoid)
}

// P11.1: names that are there already.
func TestTaken(t *testing.T) {
	for _, line := range []string{"token num a", "layout num a", "token ws a", "layout ws a", "sort e", "sort num", "sort c", "token e a", "rule e 0 Add = num", "rule f 0 Num =", "bracket e '[ ']", "bracket e '( ')"} {
		refused(t, sums+line+"\n"+"x\n", 9, api.ErrName)
	}
	refused(t, "bracket a '( ')\nbracket b '( ')\nbracket a '( ')\n", 3, api.ErrName) // of a sort's name, though there is no such sort
	refused(t, "rule a 0 A =\nrule b 0 A =\n", 2, api.ErrName)
	parsed(t, "sort a\nsort b\nrule a 0 - = b:0\nrule a 0 - = b:1\nrule b 0 B =\nbracket a '( ')\nbracket b '( ')\n")
}

// P11.1: expressions that can't stand.
func TestExpressions(t *testing.T) {
	tests := []struct {
		expression string
		want       api.Errno
	}{
		{"", api.ErrVoid}, {"()", api.ErrVoid}, {"|", api.ErrVoid}, {"a*", api.ErrVoid}, {"a|", api.ErrVoid}, {`[^\x00-\xff]`, api.ErrVoid}, {`a[^\x00-\xff]`, api.ErrVoid},
		{"[", api.ErrForm}, {"a)", api.ErrForm}, {"*", api.ErrForm}, {"[b-a]", api.ErrForm}, {"a\tb", api.ErrForm}, {"\\", api.ErrForm}, {"\xe9", api.ErrForm},
		{strings.Repeat("a", 201), api.ErrLong}, {strings.Repeat("(", 51) + "a" + strings.Repeat(")", 51), api.ErrLong},
		{"[ab]*a" + strings.Repeat("[ab]", 11), api.ErrLong}, // more than 2000 states
	}
	for _, x := range tests {
		for _, kind := range []string{"token", "layout"} {
			refused(t, kind+" a "+x.expression+"\n", 1, x.want)
			refused(t, smallest+kind+" a "+x.expression+"\nx\n"+kind+" a a\n", 3, x.want)
		}
	}
	parsed(t, "token a [ab]*a"+strings.Repeat("[ab]", 9)+"\n"+smallest)
}

// P11.1: of a line with several faults the one that is named first is told.
func TestFirst(t *testing.T) {
	full := tokens(api.MaxTokens)
	rules := lines(api.MaxRules, func(i int) string { return "rule s 0 A" + strconv.Itoa(i) + " =" })
	tests := []struct {
		ahead, line string
		want        api.Errno
	}{
		{"token a a\n", "token a [ ]", api.ErrForm},
		{"token a a\n", "token a [", api.ErrName},
		{"token a a\n", "token a ", api.ErrName},
		{"sort a\n", "token a " + strings.Repeat("a", 201), api.ErrName},
		{full, "token T [", api.ErrForm},
		{full, "token t0 [", api.ErrName},
		{full, "token x [", api.ErrForm},
		{full, "token x a*", api.ErrVoid},
		{full, "token x a", api.ErrLong},
		{full, "rule s 0 A = 'x 'y '", api.ErrForm},
		{full + "rule s 0 A =\n", "rule s 0 A = 'x", api.ErrName},
		{full, "rule s 0 A = 'x", api.ErrLong},
		{full, "bracket s 'x '", api.ErrForm},
		{full, "bracket s 'x 'y", api.ErrLong},
		{numbered(api.MaxSorts, "sort s"), "sort s0", api.ErrName},
		{numbered(api.MaxSorts, "sort s"), "sort S", api.ErrForm},
		{numbered(api.MaxSorts, "sort s"), "sort s", api.ErrLong},
		{rules, "rule s 0 A0 =", api.ErrName},
		{rules, "rule s 0 B = B", api.ErrForm},
		{rules, "rule s 0 B =", api.ErrLong},
		{rules, "bracket s '( ')", api.ErrLong},
		{"rule s 0 A =\n", "rule s 0 A = '", api.ErrForm},
		{"bracket s '( ')\n", "bracket s ( ')", api.ErrForm},
	}
	for _, x := range tests {
		line := strings.Count(x.ahead, "\n") + 1
		refused(t, x.ahead+x.line+"\n", line, x.want)
		refused(t, "#\n\n"+x.ahead+x.line+"\nx\n"+smallest, line+2, x.want)
	}
}

// P11.1: as much as may be, and a line more.
func TestLimits(t *testing.T) {
	tests := []struct{ most, more string }{
		{smallest + tokens(api.MaxTokens), "token x a"},
		{smallest + tokens(api.MaxTokens), "rule s 0 A = 'a"},
		{smallest + tokens(api.MaxTokens-1), "bracket s 'a 'b"},
		{smallest + tokens(api.MaxTokens-1) + "rule s 0 - = 'a s:0\nbracket s 'a 'a\n", "layout x a"},
		{"sort s\nrule s 0 B = 'x 'x0\n" + lines(api.MaxTokens-1, func(i int) string { return "rule s 0 A" + strconv.Itoa(i) + " = 'x 'x" + strconv.Itoa(i) }), "token x a"},
		{numbered(api.MaxSorts, "sort s") + "rule s39 0 A =\n", "sort s"},
		{"sort s\n" + lines(api.MaxRules, func(i int) string { return "rule s 0 A" + strconv.Itoa(i) + " =" }), "rule s 0 A ="},
		{"sort s\n" + strings.Repeat("rule s 0 - = s:0\n", api.MaxRules-1) + "bracket s '( ')\n", "rule s 0 A ="},
		{"sort s\n" + strings.Repeat("rule s 0 - = s:0\n", api.MaxRules), "bracket s '( ')"},
	}
	for _, x := range tests {
		g := parsed(t, x.most)
		if len(g.Classes()) > api.MaxTokens || len(g.Sorts()) > api.MaxSorts || len(g.Rules()) > api.MaxRules {
			t.Errorf("%.200q: too many", x.most)
		}
		refused(t, x.most+x.more+"\nx\n", strings.Count(x.most, "\n")+1, api.ErrLong)
	}
}

// P11.1: how long a text may be.
func TestLong(t *testing.T) {
	text := sums + strings.Repeat("#"+strings.Repeat("x", 62)+"\n", 1<<14)
	text = text[:api.MaxText-1] + "\n"
	if g := parsed(t, text); g.Print() != sums {
		t.Errorf("Print: %.200q", g.Print())
	}
	refused(t, text+"\n", 0, api.ErrLong)
	refused(t, "x\n"+text, 0, api.ErrLong)
	refused(t, strings.Repeat("\n", api.MaxText+1), 0, api.ErrLong)
	refused(t, strings.Repeat("\n", api.MaxText), 0, api.ErrNone)
	refused(t, strings.Repeat(" ", api.MaxText), 1, api.ErrForm)
	refused(t, strings.Repeat("\n", api.MaxText-1)+"x", api.MaxText, api.ErrForm)
}

// P11.1: names in rules and brackets that are none, the first line first, behind all that is told of single lines.
func TestUnknown(t *testing.T) {
	for _, rule := range []string{"rule x 0 A =", "rule s 0 A = x", "rule s 0 A = x:0", "rule s 0 A = s", "rule s 0 A = a:0", "rule s 0 A = 'a a s:0 x", "rule s 0 - = x:0", "bracket x '( ')", "bracket a '( ')", "rule a 0 A ="} {
		refused(t, "token a a\nsort s\n#\n"+rule+"\n", 4, api.ErrName)
		refused(t, "token a a\nsort s\nrule s 0 B =\n"+rule+"\nrule y 0 C =\nbracket y '( ')\n", 4, api.ErrName)
		refused(t, "token a a\nsort s\n"+rule+"\nrule s 0 B\n", 4, api.ErrForm)
		refused(t, "token a a\nsort s\n"+rule+"\nsort s\n", 4, api.ErrName)
	}
	refused(t, "rule s 0 A =\n", 1, api.ErrName)
	refused(t, "bracket s '( ')\n#\n", 1, api.ErrName)
	refused(t, "sort s\nbracket t '( ')\nrule s 0 A = x\n", 2, api.ErrName)
	parsed(t, "rule s 0 A = x s:1\nbracket t '( ')\nsort s\nsort t\ntoken x a\n")
}

// P11.1: what is missing, or too much, of all together.
func TestWhole(t *testing.T) {
	for _, text := range []string{"", "\n", "# x\n", "sort s\n", "token a a\n", "token a a\nsort s\n"} {
		refused(t, text, 0, api.ErrNone)
	}
	if g := parsed(t, "sort s\nbracket s '( ')\n"); len(g.Rules()) != 1 {
		t.Errorf("a bracket alone: %v", g.Rules())
	}
	positions := lines(11, func(i int) string { return "token t" + strconv.Itoa(i) + " " + strings.Repeat("a", 190) })
	refused(t, positions+smallest, 0, api.ErrLong)
	refused(t, positions+"sort s\n", 0, api.ErrNone)
	refused(t, positions+"sort s\nrule x 0 A =\n", 13, api.ErrName)
	states := "token a [ab]*a" + strings.Repeat("[ab]", 9) + "\ntoken b [ab]*b" + strings.Repeat("[ab]", 9) + "[ac]c*\n"
	for _, one := range strings.SplitAfter(strings.TrimSuffix(states, "\n"), "\n") {
		parsed(t, strings.TrimSuffix(one, "\n")+"\n"+smallest)
	}
	refused(t, states+smallest, 0, api.ErrLong)
	refused(t, smallest+states+"x\n", 5, api.ErrForm)
}
