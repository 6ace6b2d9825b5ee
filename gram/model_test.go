package gram_test

import (
	"fmt"
	"math/rand"
	"reflect"
	"regexp"
	"slices"
	"strings"
	"testing"

	"frisket/api"
	"frisket/gram"
	"frisket/scan"
)

// The lines that there are, by the chapter's words.
var (
	classLine   = regexp.MustCompile(`^(token|layout) ([a-z][a-z0-9]{0,19}) ([^ ]*)$`)
	sortLine    = regexp.MustCompile(`^sort ([a-z][a-z0-9]{0,19})$`)
	ruleLine    = regexp.MustCompile(`^rule ([a-z][a-z0-9]{0,19}) ([0-9]) ([A-Z][A-Za-z0-9]{0,19}|-) =((?: (?:'[^ ]{1,20}|[a-z][a-z0-9]{0,19}(?::[0-9])?)){0,12})$`)
	bracketLine = regexp.MustCompile(`^bracket ([a-z][a-z0-9]{0,19}) ('[^ ]{1,20}) ('[^ ]{1,20})$`)
	ourName     = regexp.MustCompile(`^lit|[^'a-zA-Z0-9]lit`)
)

// model is a grammar as the chapter's words make it, by names.
type model struct {
	classes, sorts, literals []string
	rules                    [][]string // sort, constructor, level, parts
	lines                    []int      // of each rule
	printed                  [3]string
	told                     map[string]int // names that are there, with what has them ahead
}

// tell takes a name; false, if it is there already.
func (m *model) tell(name string) bool {
	m.told[name]++
	return m.told[name] == 1
}

// add takes a line, and tells what is wrong with it.
func (m *model) add(n int, line string) api.Errno {
	if x := classLine.FindStringSubmatch(line); x != nil && !ourName.MatchString(" "+x[2]) {
		_, _, err := scan.New(scan.Class{Name: "x", Regex: x[3]})
		if !m.tell("name " + x[2]) {
			return api.ErrName
		}
		m.classes = append(m.classes, x[2])
		m.printed[0] += line + "\n"
		return err
	}
	if x := sortLine.FindStringSubmatch(line); x != nil && !ourName.MatchString(" "+x[1]) {
		m.sorts = append(m.sorts, x[1])
		m.printed[1] += line + "\n"
		if !m.tell("name " + x[1]) {
			return api.ErrName
		}
		return api.OK
	}
	var rule []string
	key := ""
	if x := ruleLine.FindStringSubmatch(line); x != nil {
		rule = append([]string{x[1], strings.TrimPrefix(x[3], "-"), x[2]}, strings.Split(x[4], " ")[1:]...)
		if key = "constructor " + x[3]; x[3] == "-" {
			loose := slices.DeleteFunc(slices.Clone(rule[3:]), func(s string) bool { return s[0] == '\'' })
			if len(loose) != 1 || !strings.Contains(loose[0], ":") {
				return api.ErrForm
			}
			key = ""
		}
	} else if x := bracketLine.FindStringSubmatch(line); x != nil {
		rule = []string{x[1], "", "9", x[2], x[1] + ":0", x[3]}
		key = "bracket " + x[1]
	}
	if rule == nil || slices.ContainsFunc(slices.Delete(slices.Clone(rule), 1, 2), func(s string) bool { return strings.HasPrefix(s, "lit") }) {
		return api.ErrForm
	}
	if key != "" && !m.tell(key) {
		return api.ErrName
	}
	for _, s := range rule[3:] {
		if text, ok := strings.CutPrefix(s, "'"); ok && !slices.Contains(m.literals, text) {
			m.literals = append(m.literals, text)
		}
	}
	m.rules, m.lines = append(m.rules, rule), append(m.lines, n)
	m.printed[2] += line + "\n"
	return api.OK
}

// parse is what Parse tells of a text, and the grammar.
func (m *model) parse(text string) (int, api.Errno) {
	all := strings.Split(text, "\n")
	for i, line := range all {
		switch {
		case i == len(all)-1 && line == "":
		case i == len(all)-1:
			return i + 1, api.ErrForm
		case line == "" || line[0] == '#':
		default:
			if err := m.add(i+1, line); err != api.OK {
				return i + 1, err
			}
		}
	}
	for i, rule := range m.rules {
		if _, ok := m.rule(rule); !ok {
			return m.lines[i], api.ErrName
		}
	}
	if len(m.sorts) == 0 || len(m.rules) == 0 {
		return 0, api.ErrNone
	}
	return 0, api.OK
}

// rule is a rule by numbers; false, if a name means nothing.
func (m *model) rule(l []string) (gram.Rule, bool) {
	r := gram.Rule{Sort: slices.Index(m.sorts, l[0]), Cons: l[1], Level: int(l[2][0] - '0')}
	ok := r.Sort >= 0
	for _, s := range l[3:] {
		p := gram.Part{Class: -1, Sort: -1}
		if name, level, is := strings.Cut(s, ":"); s[0] == '\'' {
			p.Class, p.Fixed = slices.Index(m.literals, s[1:]), true
		} else if is {
			p.Sort, p.Level = slices.Index(m.sorts, name), int(level[0]-'0')
			ok = ok && p.Sort >= 0
		} else {
			p.Class = len(m.literals) + slices.Index(m.classes, s)
			ok = ok && p.Class >= len(m.literals)
		}
		r.Parts = append(r.Parts, p)
	}
	return r, ok
}

// checkText holds what is told of a text against the model; true, if there is a grammar.
func checkText(t *testing.T, text string) bool {
	t.Helper()
	m := &model{told: map[string]int{}}
	line, want := m.parse(text)
	g, n, err := gram.Parse(text)
	if n != line || err != want || (g != nil) != (want == api.OK) {
		t.Fatalf("Parse(%q): %v, %d, %d, not %d, %d", text, g, n, err, line, want)
	}
	if g == nil {
		return false
	}
	var rules []gram.Rule
	for _, l := range m.rules {
		r, _ := m.rule(l)
		rules = append(rules, r)
	}
	if got := g.Rules(); !reflect.DeepEqual(got, rules) {
		t.Fatalf("Rules of %q: %v, not %v", text, got, rules)
	}
	if !slices.Equal(g.Sorts(), m.sorts) || len(g.Classes()) != len(m.literals)+len(m.classes) {
		t.Fatalf("of %q: %v, %v", text, g.Sorts(), g.Classes())
	}
	for i, c := range g.Classes() {
		s, ok := g.Literal(i)
		if ok != (i < len(m.literals)) || ok && (s != m.literals[i] || c.Name != fmt.Sprint("lit", i)) || !ok && c.Name != m.classes[i-len(m.literals)] {
			t.Fatalf("class %d of %q: %v, %q", i, text, c, s)
		}
	}
	if g.Print() != strings.Join(m.printed[:], "") {
		t.Fatalf("Print of %q: %q", text, g.Print())
	}
	return true
}

// checkSame tells whether what is printed of a text's grammar is read as the same one.
func checkSame(t *testing.T, text string) {
	t.Helper()
	g := parsed(t, text)
	again := parsed(t, g.Print())
	if again.Print() != g.Print() || !slices.Equal(again.Classes(), g.Classes()) || !slices.Equal(again.Sorts(), g.Sorts()) || !reflect.DeepEqual(again.Rules(), g.Rules()) {
		t.Fatalf("%q is printed as %q", text, g.Print())
	}
	for sort := range g.Sorts() {
		n, ok := g.Bracket(sort)
		if m, is := again.Bracket(sort); m != n || is != ok {
			t.Fatalf("Bracket(%d) of %q: %d, %v", sort, text, m, is)
		}
	}
}

// maker makes texts by chance.
type maker struct{ *rand.Rand }

// one is one of some words.
func (r maker) one(l ...string) string {
	return l[r.Intn(len(l))]
}

// parts is parts, with a blank ahead of each.
func (r maker) parts() string {
	var b strings.Builder
	for range r.Intn(4) {
		b.WriteString(" " + r.one("'x", "'y", "'#", "'", "''", "s:0", "s:9", "t:1", "a", "num", "u:0", "s", "lit", "'lit"))
	}
	return b.String()
}

// line is a line that may stand most times.
func (r maker) line() string {
	switch r.Intn(9) {
	case 0:
		return r.one("token", "layout") + " " + r.one("a", "b", "c", "d", "t") + " " + r.one("[0-9]+", "a", `\s`, "x", "#", "", "(", "x*")
	case 1:
		return "sort " + r.one("s", "u", "v", "w", "a")
	case 2, 3, 4, 5:
		return "rule " + r.one("s", "t") + " " + r.one("0", "1", "9") + " " + r.one("A", "B", "Cd", "E0", "F", "G") + " =" + r.parts()
	case 6:
		return "rule " + r.one("s", "t") + " " + r.one("0", "9") + " - = " + r.one("", "'( ") + r.one("s:0", "t:1", "t:0") + r.one("", " ')")
	case 7:
		return "bracket " + r.one("s", "t") + " " + r.one("'(", "'x") + " " + r.one("')", "'x")
	}
	return r.one("", "# x", "#")
}

// text is some lines behind those that make a grammar likely, now and then with a byte that may be wrong.
func (r maker) text() string {
	l := []string{"sort s", "sort t", "token a x", "token num [0-9]+"}
	if r.Intn(3) == 0 {
		l = l[:r.Intn(len(l)+1)]
	}
	for range r.Intn(8) {
		l = append(l, r.line())
	}
	r.Shuffle(len(l), func(i, j int) { l[i], l[j] = l[j], l[i] })
	text := strings.Join(l, "\n") + "\n"
	if at := r.Intn(len(text)); r.Intn(4) == 0 {
		text = text[:at] + r.one("", " ", "'", "=", ":", "-", "#", "9", "A", "a", "\n", "\t", "\r", "lit") + text[min(at+r.Intn(2), len(text)):]
	}
	return text
}

// P11.1, P11.2, P11.3: of texts made by chance is told what the model tells.
func TestModel(t *testing.T) {
	r := maker{rand.New(rand.NewSource(8))}
	grammars := 0
	for range 10000 {
		text := r.text()
		if checkText(t, text) {
			checkSame(t, text)
			grammars++
		}
	}
	if grammars < 1500 {
		t.Errorf("%d grammars alone", grammars)
	}
}

// P11.3: what is printed is read as the same grammar.
func TestSame(t *testing.T) {
	for _, text := range []string{
		sums, smallest,
		"rule b 0 A = 'z x 'y\nrule a 0 B = 'y 'w\ntoken x .\nsort a\nlayout w \\s\nsort b\n",
		"sort s\nrule s 9 - = '( s:0 ')\nbracket s '[ ']\n",
		"sort s\nrule s 0 A = '\t 'rule '= '- '\r '\x00 '\xff\xfe '\\n '#\n",
	} {
		checkSame(t, text)
	}
}

// Each literal's expression means that literal, and nothing else; of one length it is taken, though other classes mean it, too.
func TestLiterals(t *testing.T) {
	var texts []string
	for c := range 256 {
		if c != '\n' && c != ' ' {
			texts = append(texts, string([]byte{byte(c)}))
		}
	}
	texts = append(texts, `\n`, "[a]", "a*", "(|)", "if", "''", "...", `\\`, "^-{}$", strings.Repeat("+", 20), strings.Repeat("\x80", 20), "€", "=", "s:0")
	for from := 0; from < len(texts); from += api.MaxTokens - 1 {
		some := texts[from:min(from+api.MaxTokens-1, len(texts))]
		text := "layout any .|..\nsort s\n"
		for i, s := range some {
			text += fmt.Sprintf("rule s 0 A%d = '%s any\n", i, s)
		}
		g := parsed(t, text)
		for i, s := range some {
			c := g.Classes()[i]
			if got, ok := g.Literal(i); got != s || !ok || c.Name != fmt.Sprint("lit", i) || c.Layout {
				t.Errorf("Literal(%d): %q, %v, of %v", i, got, ok, c)
			}
			one, n, err := scan.New(scan.Class{Name: "x", Regex: c.Regex})
			if n != 1 || err != api.OK || !one.One(0, s) {
				t.Fatalf("%q is written %q: %d", s, c.Regex, err)
			}
			for _, other := range texts {
				if one.One(0, other) != (other == s) {
					t.Errorf("%q is written %q, which means %q", s, c.Regex, other)
				}
			}
			if k, err := g.Scanner().Next(s, 0); err != api.OK || k.Class != i || k.To != len(s) {
				t.Errorf("%q is scanned as %v", s, k)
			}
		}
	}
}
