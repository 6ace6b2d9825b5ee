package scan_test

import (
	"math/rand"
	"slices"
	"strings"
	"testing"

	"frisket/api"
	"frisket/dfa"
	"frisket/least"
	"frisket/nfa"
	"frisket/regex"
	"frisket/scan"
)

// scannerOf is the scanner of classes.
func scannerOf(t testing.TB, l ...scan.Class) *scan.Scanner {
	t.Helper()
	s, n, err := scan.New(l...)
	if s == nil || n != len(l) || err != api.OK {
		t.Fatalf("New(%v): %v, %d, %d", l, s, n, err)
	}
	return s
}

// classes is classes of expressions, named a0, a1 and so on; those that end with a blank are layout.
func classes(written ...string) []scan.Class {
	var l []scan.Class
	for i, s := range written {
		regex, layout := strings.CutSuffix(s, " ")
		l = append(l, scan.Class{Name: "a" + string(rune('0'+i/10)) + string(rune('0'+i%10)), Regex: regex, Layout: layout})
	}
	return l
}

// words is the scanner of the chapter's example.
func words(t testing.TB) *scan.Scanner {
	t.Helper()
	return scannerOf(t, scan.Class{Name: "id", Regex: "[a-z]+"}, scan.Class{Name: "num", Regex: "[0-9]+"}, scan.Class{Name: "ws", Regex: `\s+`, Layout: true})
}

// nothing means nothing at all.
func nothing(n *regex.Node) bool {
	switch p := regex.Parts(n); regex.Kind(n) {
	case regex.KindSet:
		return regex.Bytes(n) == [4]uint64{}
	case regex.KindCat:
		return nothing(p[0]) || nothing(p[1])
	case regex.KindOr:
		return nothing(p[0]) && nothing(p[1])
	}
	return false
}

// behind is what may stand behind a byte in what an expression means.
func behind(n *regex.Node, c byte) *regex.Node {
	switch p := regex.Parts(n); regex.Kind(n) {
	case regex.KindSet:
		if regex.Bytes(n)[c/64]>>(c%64)&1 == 1 {
			return regex.Empty()
		}
	case regex.KindCat:
		first := regex.Cat(behind(p[0], c), p[1])
		if nothing(first) {
			first = regex.Or()
		}
		if regex.Nullable(p[0]) {
			return either(first, behind(p[1], c))
		}
		return first
	case regex.KindOr:
		return either(behind(p[0], c), behind(p[1], c))
	case regex.KindStar:
		return regex.Cat(behind(p[0], c), n)
	}
	return regex.Or()
}

// either is the Or of two, without those that mean nothing.
func either(a, b *regex.Node) *regex.Node {
	if nothing(a) {
		return b
	}
	if nothing(b) {
		return a
	}
	return regex.Or(a, b)
}

// model is a scanner as the chapter's words make it: it holds each beginning against each expression.
type model []*regex.Node

// modelOf makes it.
func modelOf(t testing.TB, l []scan.Class) model {
	t.Helper()
	var m model
	for _, c := range l {
		n, at, err := regex.Parse(c.Regex)
		if err != api.OK {
			t.Fatalf("Parse(%q): %d, %d", c.Regex, at, err)
		}
		m = append(m, n)
	}
	return m
}

// next is the token that begins at a place.
func (m model) next(text string, at int) scan.Token {
	rest := slices.Clone(m)
	t := scan.Token{Class: -1, From: at, To: at + 1, Look: len(text) + 1}
	for i := at; i < len(text); i++ {
		alive, class := false, -1
		for k := len(rest) - 1; k >= 0; k-- {
			rest[k] = behind(rest[k], text[i])
			alive = alive || !nothing(rest[k])
			if regex.Nullable(rest[k]) {
				class = k
			}
		}
		if !alive {
			t.Look = i + 1
			break
		}
		if class >= 0 {
			t.Class, t.To = class, i+1
		}
	}
	return t
}

// scan is the tokens of a text.
func (m model) scan(text string) []scan.Token {
	var l []scan.Token
	for at := 0; at < len(text); {
		t := m.next(text, at)
		l = append(l, t)
		at = t.To
	}
	return l
}

// texts is all texts of some bytes, up to a length.
func texts(bytes string, most int) []string {
	all := []string{""}
	for from := 0; most > 0; most-- {
		to := len(all)
		for _, s := range all[from:to] {
			for i := range len(bytes) {
				all = append(all, s+bytes[i:i+1])
			}
		}
		from = to
	}
	return all
}

// checkText holds all that a scanner tells of a text against the model.
func checkText(t *testing.T, s *scan.Scanner, m model, text string) {
	t.Helper()
	want := m.scan(text)
	got, err := s.Scan(text)
	if err != api.OK || !slices.Equal(got, want) {
		t.Fatalf("Scan(%q): %v, %d, not %v", text, got, err, want)
	}
	for at := range len(text) {
		got, err := s.Next(text, at)
		if want := m.next(text, at); err != api.OK || got != want {
			t.Fatalf("Next(%q, %d): %v, %d, not %v", text, at, got, err, want)
		}
	}
	for class := -2; class < len(m)+2; class++ {
		if got, want := s.One(class, text), class >= 0 && len(want) == 1 && want[0].Class == class; got != want {
			t.Fatalf("One(%d, %q): %v", class, text, got)
		}
	}
	for cut := range len(text) + 1 {
		is := cut == 0 || slices.ContainsFunc(want, func(t scan.Token) bool { return t.To == cut })
		if got := s.Apart(text[:cut], text[cut:]); got != is {
			t.Fatalf("Apart(%q, %q): %v", text[:cut], text[cut:], got)
		}
	}
}

// P9.1: the scanner, and how many classes.
func TestNew(t *testing.T) {
	for n := 1; n <= api.MaxTokens; n++ {
		s := scannerOf(t, classes(slices.Repeat([]string{"a"}, n)...)...)
		if len(s.Classes()) != n {
			t.Errorf("%d classes: %v", n, s.Classes())
		}
	}
}

// P9.1: what can't be, of each class in order.
func TestNewFaults(t *testing.T) {
	good := func(n int) []scan.Class { return classes(slices.Repeat([]string{"a"}, n)...) }
	with := func(n int, name, regex string) []scan.Class {
		return append(good(n), scan.Class{Name: name, Regex: regex, Layout: true})
	}
	deep := strings.Repeat("(", 51) + "a" + strings.Repeat(")", 51)
	for _, c := range []struct {
		what  string
		l     []scan.Class
		place int
		err   api.Errno
	}{
		{"no class", nil, 0, api.ErrNone},
		{"an empty list", []scan.Class{}, 0, api.ErrNone},
		{"one too many", good(41), 40, api.ErrLong},
		{"many too many", good(90), 40, api.ErrLong},
		{"the one too many has no name", with(40, "", "("), 40, api.ErrLong},
		{"a fault ahead of the one too many", append(with(3, "x", "a?"), good(50)[4:]...), 3, api.ErrVoid},
		{"no name", with(2, "", "a"), 2, api.ErrName},
		{"a digit first", with(0, "0a", "a"), 0, api.ErrName},
		{"a big letter", with(0, "aB", "a"), 0, api.ErrName},
		{"a big letter first", with(0, "Ab", "a"), 0, api.ErrName},
		{"a line", with(0, "a_b", "a"), 0, api.ErrName},
		{"a hyphen", with(0, "a-b", "a"), 0, api.ErrName},
		{"a blank", with(0, "a ", "a"), 0, api.ErrName},
		{"another letter", with(0, "\u00e9", "a"), 0, api.ErrName},
		{"behind z", with(0, "a{", "a"), 0, api.ErrName},
		{"ahead of a", with(0, "a`", "a"), 0, api.ErrName},
		{"behind 9", with(0, "a:", "a"), 0, api.ErrName},
		{"ahead of 0", with(0, "a/", "a"), 0, api.ErrName},
		{"too long a name", with(1, strings.Repeat("b", 21), "a"), 1, api.ErrName},
		{"a name twice", with(4, "a02", "b"), 4, api.ErrName},
		{"a name twice, and no expression", with(4, "a02", "("), 4, api.ErrName},
		{"no name, and nothing", with(1, "A", ""), 1, api.ErrName},
		{"no expression", with(3, "b", "a)"), 3, api.ErrForm},
		{"an empty class", with(0, "b", "[]"), 0, api.ErrForm},
		{"too deep", with(2, "b", deep), 2, api.ErrLong},
		{"too long", with(2, "b", strings.Repeat("a", 201)), 2, api.ErrLong},
		{"the empty text alone", with(1, "b", ""), 1, api.ErrVoid},
		{"the empty text, too", with(1, "b", "a|b*"), 1, api.ErrVoid},
		{"the empty text and nothing", with(1, "b", `[^\x00-\xff]*`), 1, api.ErrVoid},
		{"nothing", with(1, "b", `[^\x00-\xff]`), 1, api.ErrVoid},
		{"nothing behind something", with(1, "b", `a[^\x00-\xff]`), 1, api.ErrVoid},
		{"nothing ahead of something", with(1, "b", `[^\x00-\xff]a*`), 1, api.ErrVoid},
		{"nothing of two", with(1, "b", `a[^\x00-\xff]|[^\x00-\xff]+`), 1, api.ErrVoid},
		{"two faults: the first class's", append(with(1, "b", ""), scan.Class{Name: "A"}), 1, api.ErrVoid},
		{"too many positions, and a fault", append(classes(slices.Repeat([]string{strings.Repeat("a", 190)}, 11)...), scan.Class{Name: "A"}), 11, api.ErrName},
	} {
		s, place, err := scan.New(c.l...)
		if s != nil || place != c.place || err != c.err {
			t.Errorf("%s: New: %v, %d, %d, not %d, %d", c.what, s, place, err, c.place, c.err)
		}
	}
}

// P9.1: names that may be, and expressions that mean something, though a part of them doesn't.
func TestNewAtEdges(t *testing.T) {
	for _, name := range []string{"a", "z", "a0", "z9", "abc123", strings.Repeat("x", 20), "a" + strings.Repeat("9", 19)} {
		s := scannerOf(t, scan.Class{Name: name, Regex: "x"})
		if n, ok := s.Find(name); n != 0 || !ok {
			t.Errorf("Find(%q): %d, %v", name, n, ok)
		}
	}
	for _, regex := range []string{`a|[^\x00-\xff]`, `[^\x00-\xff]|a`, `[^\x00-\xff]*a`, `a[^\x00-\xff]*`, `a([^\x00-\xff]|)`, `\x00`, `(a|[^\x00-\xff])+`} {
		if s := scannerOf(t, scan.Class{Name: "a", Regex: regex}); s.One(0, "a") == s.One(0, "\x00") {
			t.Errorf("%q: One", regex)
		}
	}
}

// P9.1: positions and states.
func TestNewTooMany(t *testing.T) {
	long := slices.Repeat([]string{strings.Repeat("a", 200)}, 10)
	scannerOf(t, classes(long...)...)
	for what, l := range map[string][]string{
		"2001 positions":         append(long, "b"),
		"states of one":          {"[ab]*a" + strings.Repeat("[ab]", 11)},
		"states of all together": {"(" + strings.Repeat("a", 47) + ")*b", "(" + strings.Repeat("a", 46) + ")*c"},
	} {
		if s, place, err := scan.New(classes(l...)...); s != nil || place != 0 || err != api.ErrLong {
			t.Errorf("%s: New: %v, %d, %d", what, s, place, err)
		}
	}
}

// P9.2: the chapter's example.
func TestScanExample(t *testing.T) {
	s := words(t)
	l, err := s.Scan("ab 1")
	if want := []scan.Token{{0, 0, 2, 3}, {2, 2, 3, 4}, {1, 3, 4, 5}}; err != api.OK || !slices.Equal(l, want) {
		t.Errorf("Scan: %v, %d", l, err)
	}
}

// P9.2: places, classes, ends and looks, by hand.
func TestScanByHand(t *testing.T) {
	s := scannerOf(t, classes("if", "[a-z]+", "/\\*[^*]*\\*/ ", "[0-9]+(\\.[0-9]+)?", "a\\?")...)
	for text, want := range map[string][]scan.Token{
		"":       nil,
		"if":     {{0, 0, 2, 3}},
		"ifs":    {{1, 0, 3, 4}},
		"i":      {{1, 0, 1, 2}},
		"a?a":    {{4, 0, 2, 3}, {1, 2, 3, 4}},
		"1.x":    {{3, 0, 1, 3}, {-1, 1, 2, 2}, {1, 2, 3, 4}},
		"1.":     {{3, 0, 1, 3}, {-1, 1, 2, 2}},
		"1.2":    {{3, 0, 3, 4}},
		"/*a*/":  {{2, 0, 5, 6}},
		"/*a*b":  {{-1, 0, 1, 5}, {-1, 1, 2, 2}, {1, 2, 3, 4}, {-1, 3, 4, 4}, {1, 4, 5, 6}},
		"/*a":    {{-1, 0, 1, 4}, {-1, 1, 2, 2}, {1, 2, 3, 4}},
		"\xff\n": {{-1, 0, 1, 1}, {-1, 1, 2, 2}},
	} {
		if l, err := s.Scan(text); err != api.OK || !slices.Equal(l, want) {
			t.Errorf("Scan(%q): %v, %d, not %v", text, l, err, want)
		}
	}
}

// P9.2: of several classes of one length the least one, of several lengths the longest one, whatever the order.
func TestScanChooses(t *testing.T) {
	for _, l := range [][]string{{"ab", "a[b]", "a"}, {"a", "ab", "abc"}, {"[ab]+", "ab", "b"}, {"a+", "a+b", "b"}, {"(aa)+", "(aaa)+", "b"}, {"a", "a*b", "b*c"}, {"ab*c", "b", "a|c"}} {
		c := classes(l...)
		for range 3 {
			s, m := scannerOf(t, c...), modelOf(t, c)
			for _, text := range texts("abc", 6) {
				checkText(t, s, m, text)
			}
			c = append(c[1:], c[0])
		}
	}
}

// written is an expression that is written at random.
func written(r *rand.Rand, deep int) string {
	if deep == 0 {
		return string("abc"[r.Intn(3)])
	}
	switch r.Intn(7) {
	case 0:
		return "(" + written(r, deep-1) + "|" + written(r, deep-1) + ")"
	case 1:
		return "(" + written(r, deep-1) + ")" + string("*+?"[r.Intn(3)])
	case 2:
		return "[^" + string("abc"[r.Intn(3)]) + "]"
	case 3:
		return `[^\x00-\xff]`
	}
	return written(r, deep-1) + written(r, deep-1)
}

// P9.1, P9.2: scanners made at random; those that can't be, at the class that can't stand.
func TestScanAtRandom(t *testing.T) {
	r := rand.New(rand.NewSource(9))
	all := texts("abcd", 4)
	made := 0
	for range 1500 {
		var l []string
		for range 1 + r.Intn(4) {
			l = append(l, written(r, r.Intn(5)))
		}
		c := classes(l...)
		m := modelOf(t, c)
		bad := slices.IndexFunc(m, func(n *regex.Node) bool { return nothing(n) || regex.Matches(n, "") })
		if s, place, err := scan.New(c...); bad >= 0 {
			if s != nil || place != bad || err != api.ErrVoid {
				t.Fatalf("New(%q): %v, %d, %d, not %d", l, s, place, err, bad)
			}
			continue
		}
		made++
		s := scannerOf(t, c...)
		for range 30 {
			checkText(t, s, m, all[r.Intn(len(all))]+all[r.Intn(len(all))])
		}
	}
	if made < 300 {
		t.Errorf("only %d scanners", made)
	}
}

// checkCover holds that tokens cover a text.
func checkCover(t *testing.T, text string, l []scan.Token) {
	t.Helper()
	at := 0
	for _, x := range l {
		if x.From != at || x.To <= at || x.Look < x.To || x.Look > len(text)+1 {
			t.Fatalf("%v at %d", x, at)
		}
		at = x.To
	}
	if at != len(text) {
		t.Fatalf("covered up to %d of %d", at, len(text))
	}
}

// P9.3, P9.2: tokens of long texts cover them, and are those that Next tells one by one.
func TestScanLong(t *testing.T) {
	r := rand.New(rand.NewSource(3))
	for _, l := range [][]string{
		{"[^b]+", "b"},
		{"a", "a*b"},
		{"a", "(aa)*b", "(aaa)*c"},
		{"[ab]", "(a[ab]*)c"},
		{"aaa", "a(aaaaa)*b", "a", "c+"},
		{"[abc]", "[ab]+cc[abc]*d"},
		{"/", "/a*/"},
	} {
		s := scannerOf(t, classes(l...)...)
		for _, bytes := range []string{"a", "aaab", "ab", "abc", strings.Repeat("a", 600) + "b", strings.Repeat("a", 2000) + "bc", "/a"} {
			var b strings.Builder
			for n := 2500 + r.Intn(1200); n > 0; n-- {
				b.WriteByte(bytes[r.Intn(len(bytes))])
			}
			text := b.String()
			got, err := s.Scan(text)
			if err != api.OK {
				t.Fatalf("Scan: %d", err)
			}
			checkCover(t, text, got)
			for _, x := range got {
				if one, err := s.Next(text, x.From); err != api.OK || one != x {
					t.Fatalf("%q: Next: %v, %d, not %v", l, one, err, x)
				}
				if class, length, looked := s.Longest(text[x.From:]); class != x.Class || length != (x.To-x.From)*min(1, class+1) || x.From+looked != min(x.Look, len(text)) {
					t.Fatalf("%q: Longest: %d, %d, %d of %v", l, class, length, looked, x)
				}
			}
		}
	}
}

// P9.2: MaxText bytes may be, one more may not; tokens that all look at the text's end don't take long.
func TestScanMaxText(t *testing.T) {
	for what, c := range map[string]struct {
		l    []string
		text string
		many int
	}{
		"one token":           {[]string{"a+"}, strings.Repeat("a", api.MaxText), 1},
		"small ones":          {[]string{"a"}, strings.Repeat("a", api.MaxText), api.MaxText},
		"none":                {[]string{"b"}, strings.Repeat("a", api.MaxText), api.MaxText},
		"all look at the end": {[]string{"a", "a*b"}, strings.Repeat("a", api.MaxText), api.MaxText},
		"by turns":            {[]string{"a", "(aaaaaaa)*b"}, strings.Repeat("a", api.MaxText), api.MaxText},
		"comments":            {[]string{`/\*([^*]|\*+[^*/])*\*+/`, `[/*\-]`}, strings.Repeat("/*--", api.MaxText/4), api.MaxText},
	} {
		s := scannerOf(t, classes(c.l...)...)
		l, err := s.Scan(c.text)
		if err != api.OK || len(l) != c.many {
			t.Errorf("%s: %d tokens, %d", what, len(l), err)
			continue
		}
		checkCover(t, c.text, l)
		if l, err := s.Scan(c.text + "a"); l != nil || err != api.ErrLong {
			t.Errorf("%s: Scan of more: %d tokens, %d", what, len(l), err)
		}
	}
}

// P9.2: Next, One and Apart name no greatest length.
func TestLonger(t *testing.T) {
	s := words(t)
	text := strings.Repeat("a", api.MaxText+5)
	if x, err := s.Next(text, 3); err != api.OK || x != (scan.Token{Class: 0, From: 3, To: len(text), Look: len(text) + 1}) {
		t.Errorf("Next: %v, %d", x, err)
	}
	if !s.One(0, text) || s.One(0, text+" ") || s.Apart(text, "a") || !s.Apart(text, " a") {
		t.Error("One, Apart")
	}
}

// P9.2: places that aren't ahead of the end.
func TestNextRange(t *testing.T) {
	s := words(t)
	for _, at := range []int{-1 << 63, -1, 2, 3, 1<<63 - 1} {
		if x, err := s.Next("ab", at); x != (scan.Token{}) || err != api.ErrRange {
			t.Errorf("Next(ab, %d): %v, %d", at, x, err)
		}
	}
	if x, err := s.Next("", 0); x != (scan.Token{}) || err != api.ErrRange {
		t.Errorf("Next of nothing: %v, %d", x, err)
	}
	if x, err := s.Next("ab", 1); x != (scan.Token{Class: 0, From: 1, To: 2, Look: 3}) || err != api.OK {
		t.Errorf("Next(ab, 1): %v, %d", x, err)
	}
}

// P9.2: classes, as they were handed in, and their numbers.
func TestClasses(t *testing.T) {
	l := classes("a", "b ", "c+|d")
	s := scannerOf(t, l...)
	if !slices.Equal(s.Classes(), l) {
		t.Errorf("Classes: %v", s.Classes())
	}
	for i, c := range l {
		if n, ok := s.Find(c.Name); n != i || !ok {
			t.Errorf("Find(%q): %d, %v", c.Name, n, ok)
		}
	}
	for _, name := range []string{"", "a", "a03", "A00", "a00 "} {
		if n, ok := s.Find(name); n != 0 || ok {
			t.Errorf("Find(%q): %d, %v", name, n, ok)
		}
	}
}

// P9.2: those of no layout; a class that isn't there has none.
func TestSolid(t *testing.T) {
	s := scannerOf(t, classes("a", "b ", "c", "d ")...)
	var l, want []scan.Token
	for i, class := range []int{3, 0, 1, 2, -1, 1, 3, 4, -2, 99, 0, -1 << 63, 1<<63 - 1, 3} {
		x := scan.Token{Class: class, From: i, To: 2 * i, Look: -i}
		l = append(l, x)
		if class != 1 && class != 3 {
			want = append(want, x)
		}
	}
	if got := s.Solid(l); !slices.Equal(got, want) {
		t.Errorf("Solid: %v", got)
	}
	if len(s.Solid(nil)) != 0 || len(s.Solid(l[:1])) != 0 {
		t.Error("Solid of none")
	}
}

// P9.2: the empty text is apart from any; a token may end too early, too late or there.
func TestApart(t *testing.T) {
	s := scannerOf(t, classes("[a-z]+", "<", "<=", "=", "<==>", "[0-9]+", `\s+`)...)
	for _, c := range []struct {
		a, b string
		want bool
	}{
		{"", "", true}, {"", "a", true}, {"a", "", true}, {"a", "b", false}, {"a", "1", true}, {"<", "=", false}, {"<=", "=", true},
		{"<", "==>", false}, {"<=", "=>", false}, {"<==", ">", false}, {"<==>", ">", true}, {"<=", "=a", true}, {"<", "<=", true},
		{"a b", "c", false}, {"a b", "<", true}, {"?", "?", true}, {"a<", "=b", false}, {"1", "1", false}, {"<==", "=", true},
	} {
		if got := s.Apart(c.a, c.b); got != c.want {
			t.Errorf("Apart(%q, %q): %v", c.a, c.b, got)
		}
	}
}

// P9.2: a nil scanner; and of others no call panics.
func TestNoScanner(t *testing.T) {
	var s *scan.Scanner
	long := strings.Repeat("a", api.MaxText+1)
	for _, text := range []string{"", "a", long} {
		if l, err := s.Scan(text); l != nil || err != api.ErrArg {
			t.Errorf("Scan: %v, %d", l, err)
		}
		for at := -1; at < 3; at++ {
			if x, err := s.Next(text, at); x != (scan.Token{}) || err != api.ErrArg {
				t.Errorf("Next: %v, %d", x, err)
			}
		}
		if n, ok := s.Find(text); n != 0 || ok {
			t.Errorf("Find: %d, %v", n, ok)
		}
		if s.One(0, text) || s.One(-1, text) || s.Apart(text, text) || s.Apart("", text) {
			t.Error("One, Apart")
		}
	}
	if s.Classes() != nil || s.Solid([]scan.Token{{Class: -1}}) != nil {
		t.Error("Classes, Solid")
	}
	a, _, _ := regex.Parse("a*")
	m, _ := nfa.New(a)
	d, _ := dfa.New(m)
	accepts, _ := least.New(d)
	for _, s := range []*scan.Scanner{{}, {Least: &least.Least{}}, {Least: accepts}, {Least: words(t).Least}} {
		l, _ := s.Scan("ab")
		checkCover(t, "ab", l)
		s.Next("ab", 0)
		s.Solid(l)
		s.Classes()
		s.Find("a")
		s.One(0, "a")
		s.Apart("a", "b")
	}
}

// Rule 4: what is handed in is neither changed nor kept; what is answered is new memory.
func TestNewMemory(t *testing.T) {
	l := classes("a+", "b ")
	s := scannerOf(t, l...)
	given := slices.Clone(l)
	l[0] = scan.Class{Name: "x", Regex: "y", Layout: true}
	s.Classes()[1] = scan.Class{}
	if !slices.Equal(s.Classes(), given) {
		t.Errorf("Classes: %v", s.Classes())
	}
	tokens, _ := s.Scan("aba")
	room := append(slices.Clone(tokens), scan.Token{Class: 7}, scan.Token{Class: 8})
	solid := s.Solid(room[:3])
	if len(solid) != 2 || room[3].Class != 7 || room[4].Class != 8 || !slices.Equal(room[:3], tokens) {
		t.Errorf("Solid: %v of %v", solid, room)
	}
	solid[0].Class = 9
	if room[0] != tokens[0] {
		t.Error("Solid shares what was handed in")
	}
	tokens[0].Class = 9
	if again, _ := s.Scan("aba"); again[0].Class != 0 {
		t.Error("Scan shares what it answered")
	}
}

// The scanner is its least automaton, too.
func TestAutomaton(t *testing.T) {
	s := scannerOf(t, classes("abc|abd", "x")...)
	state, ok := s.Run("abd")
	if s.States() != 5 || !ok || s.Accept(state) != 0 {
		t.Errorf("%d states; Run: %d, %v", s.States(), state, ok)
	}
	if class, length, looked := s.Longest("xx"); class != 1 || length != 1 || looked != 2 {
		t.Errorf("Longest: %d, %d, %d", class, length, looked)
	}
}
