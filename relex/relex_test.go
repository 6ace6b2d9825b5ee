package relex_test

import (
	"math/rand"
	"slices"
	"strings"
	"testing"

	"frisket/api"
	"frisket/relex"
	"frisket/scan"
)

// scannerOf is the scanner of expressions; classes are named a, b and so on.
func scannerOf(t testing.TB, written ...string) *scan.Scanner {
	t.Helper()
	var l []scan.Class
	for i, s := range written {
		l = append(l, scan.Class{Name: string(rune('a' + i)), Regex: s, Layout: s == `\s+`})
	}
	s, _, err := scan.New(l...)
	if err != api.OK {
		t.Fatalf("New(%q): %d", written, err)
	}
	return s
}

// tapeOf is the tape of a text.
func tapeOf(t testing.TB, s *scan.Scanner, text string) *relex.Tape {
	t.Helper()
	x, err := relex.New(s, text)
	if x == nil || err != api.OK {
		t.Fatalf("New(%.40q): %v, %d", text, x, err)
	}
	return x
}

// scanned is the tokens that Scan tells of a text.
func scanned(t testing.TB, s *scan.Scanner, text string) []scan.Token {
	t.Helper()
	l, err := s.Scan(text)
	if err != api.OK {
		t.Fatalf("Scan(%.40q): %d", text, err)
	}
	return l
}

// wants holds what is told of a tape against its text.
func wants(t testing.TB, s *scan.Scanner, x *relex.Tape, text string, count int) {
	t.Helper()
	if x.Text() != text {
		t.Fatalf("Text: %.60q, wanted %.60q", x.Text(), text)
	}
	if got, want := x.Tokens(), scanned(t, s, text); !slices.Equal(got, want) {
		t.Fatalf("Tokens of %.60q: %.400v, wanted %.400v", text, got, want)
	}
	if x.Scanned() != count {
		t.Fatalf("Scanned of %.60q: %d, wanted %d", text, x.Scanned(), count)
	}
}

// anew is, by the chapter's words, which tokens are scanned anew.
func anew(t testing.TB, s *scan.Scanner, text string, from, to int, with string) api.Span {
	t.Helper()
	old := scanned(t, s, text)
	edited := text[:from] + with + text[to:]
	begins := map[int]int{}
	for _, k := range old {
		if k.From >= to {
			begins[k.From-to+from+len(with)] = 1
		}
	}
	var span api.Span
	at := 0
	for _, k := range old {
		if k.Look > from {
			break
		}
		span.From++
		at = k.To
	}
	span.To = span.From
	for at < len(edited) && begins[at] == 0 {
		k, err := s.Next(edited, at)
		if err != api.OK {
			t.Fatalf("Next(%q, %d): %d", edited, at, err)
		}
		span.To++
		at = k.To
	}
	return span
}

func TestExample(t *testing.T) {
	s := scannerOf(t, "[a-z]+", `\s+`)
	x := tapeOf(t, s, "ab cd")
	wants(t, s, x, "ab cd", 3)
	span, err := x.Splice(1, 1, "x")
	if span != (api.Span{From: 0, To: 1}) || err != api.OK {
		t.Errorf("Splice: %v, %d", span, err)
	}
	wants(t, s, x, "axb cd", 4)
}

func TestSplice(t *testing.T) {
	words := scannerOf(t, "[a-z]+", `\s+`, `"[^"]*"`)
	far := scannerOf(t, "a", "a[a-z]*!", "b")
	for _, c := range []struct {
		s        *scan.Scanner
		text     string
		from, to int
		with     string
		span     api.Span
	}{
		{words, "", 0, 0, "", api.Span{}},
		{words, "", 0, 0, "ab c", api.Span{From: 0, To: 3}},
		{words, "ab c", 0, 4, "", api.Span{}},
		{words, "ab cd", 0, 0, "", api.Span{}},               // the first token goes on where it began
		{words, "ab cd", 5, 5, "", api.Span{From: 2, To: 3}}, // it had met the end
		{words, "ab cd", 5, 5, "e", api.Span{From: 2, To: 3}},
		{words, "ab cd", 2, 2, "x", api.Span{From: 0, To: 1}},   // ab had looked at the blank
		{words, "ab cd", 3, 3, "x", api.Span{From: 1, To: 3}},   // the blank had looked at c
		{words, "ab cd", 4, 4, "", api.Span{From: 2, To: 3}},    // the same text
		{words, "ab?cd", 3, 3, "?", api.Span{From: 2, To: 3}},   // ? looks at itself alone
		{words, "??cd", 1, 2, "", api.Span{From: 1, To: 1}},     // all are kept
		{words, "? ? ?", 2, 4, "", api.Span{From: 1, To: 2}},    // the blank had looked at what follows
		{words, "ab?cd", 2, 5, "", api.Span{From: 0, To: 1}},    // up to the end
		{words, "ab? ", 3, 4, "", api.Span{From: 2, To: 2}},     // nothing is left behind
		{words, "a?b", 0, 2, "", api.Span{}},                    // of the first ones none is kept
		{words, `a "b" c`, 2, 2, `"`, api.Span{From: 1, To: 5}}, // no more text within quotes
		{far, "abab", 4, 4, "!", api.Span{From: 0, To: 1}},
		{far, "bab?", 4, 4, "!", api.Span{From: 4, To: 5}},
		{far, "bab?", 3, 4, "!", api.Span{From: 1, To: 2}}, // b behind a looks no further, but a does
		{far, "bab?", 3, 4, "?", api.Span{From: 1, To: 4}},
	} {
		x := tapeOf(t, c.s, c.text)
		count := x.Scanned()
		span, err := x.Splice(c.from, c.to, c.with)
		if span != c.span || err != api.OK {
			t.Errorf("Splice(%d, %d, %q) of %q: %v, %d, wanted %v", c.from, c.to, c.with, c.text, span, err, c.span)
		}
		if told := anew(t, c.s, c.text, c.from, c.to, c.with); told != c.span {
			t.Errorf("Splice(%d, %d, %q) of %q: the words tell %v, wanted %v", c.from, c.to, c.with, c.text, told, c.span)
		}
		wants(t, c.s, x, c.text[:c.from]+c.with+c.text[c.to:], count+c.span.To-c.span.From)
	}
}

func TestNew(t *testing.T) {
	s := scannerOf(t, "[a-z]+")
	long := strings.Repeat("a", api.MaxText+1)
	for _, c := range []struct {
		s    *scan.Scanner
		text string
		err  api.Errno
	}{{nil, "a", api.ErrArg}, {nil, long, api.ErrArg}, {s, long, api.ErrLong}} {
		if x, err := relex.New(c.s, c.text); x != nil || err != c.err {
			t.Errorf("New(%v, %d bytes): %v, %d", c.s, len(c.text), x, err)
		}
	}
	wants(t, s, tapeOf(t, s, long[1:]), long[1:], 1)
	wants(t, s, tapeOf(t, s, ""), "", 0)
	wants(t, s, tapeOf(t, s, "a?"), "a?", 2)
}

func TestWrongSplices(t *testing.T) {
	s := scannerOf(t, "[a-z]+", `\s+`)
	text := strings.Repeat("ab ", api.MaxText/3)
	x := tapeOf(t, s, text)
	count := x.Scanned()
	room := api.MaxText - len(text)
	for _, c := range []struct {
		from, to, with int
		err            api.Errno
	}{
		{-1, 0, 0, api.ErrRange},
		{-1, -1, api.MaxText, api.ErrRange},
		{0, -1, 0, api.ErrRange},
		{2, 1, 0, api.ErrRange},
		{0, len(text) + 1, 0, api.ErrRange},
		{len(text) + 1, len(text) + 1, room + 1, api.ErrRange},
		{-1 << 62, 1 << 62, 0, api.ErrRange},
		{1 << 62, -1 << 62, 0, api.ErrRange},
		{0, 0, room + 1, api.ErrLong},
		{len(text), len(text), room + 1, api.ErrLong},
		{5, 9, room + 5, api.ErrLong},
		{0, len(text), api.MaxText + 1, api.ErrLong},
	} {
		if span, err := x.Splice(c.from, c.to, strings.Repeat("x", c.with)); span != (api.Span{}) || err != c.err {
			t.Errorf("Splice(%d, %d, %d bytes): %v, %d, wanted %d", c.from, c.to, c.with, span, err, c.err)
		}
	}
	wants(t, s, x, text, count)
	if span, err := x.Splice(4, 4, strings.Repeat("x", room)); span != (api.Span{From: 2, To: 3}) || err != api.OK {
		t.Errorf("Splice up to MaxText: %v, %d", span, err)
	}
	wants(t, s, x, text[:4]+strings.Repeat("x", room)+text[4:], count+1)
	if span, err := x.Splice(0, api.MaxText, strings.Repeat("?", api.MaxText)); span != (api.Span{To: api.MaxText}) || err != api.OK {
		t.Errorf("Splice of all: %v, %d", span, err)
	}
	wants(t, s, x, strings.Repeat("?", api.MaxText), count+1+api.MaxText)
}

func TestAt(t *testing.T) {
	s := scannerOf(t, "[a-z]+", `\s+`)
	for _, text := range []string{"", "a", "?", "ab  c?? d", " a"} {
		x := tapeOf(t, s, text)
		l := scanned(t, s, text)
		for place := -2; place < len(text)+3; place++ {
			n := slices.IndexFunc(l, func(k scan.Token) bool { return k.From <= place && k.To > place })
			var want scan.Token
			if n >= 0 {
				want = l[n]
			}
			if got, ok := x.At(place); got != want || ok != (n >= 0) {
				t.Errorf("At(%d) of %q: %v, %v, wanted %v", place, text, got, ok, want)
			}
		}
		for _, place := range []int{-1 << 63, 1<<63 - 1} {
			if got, ok := x.At(place); got != (scan.Token{}) || ok {
				t.Errorf("At(%d) of %q: %v, %v", place, text, got, ok)
			}
		}
	}
}

func TestNothing(t *testing.T) {
	for _, x := range []*relex.Tape{nil, {}} {
		if x.Text() != "" || len(x.Tokens()) != 0 || x.Scanned() != 0 {
			t.Errorf("of nothing: %q, %v, %d", x.Text(), x.Tokens(), x.Scanned())
		}
		for place := -1; place < 2; place++ {
			if k, ok := x.At(place); k != (scan.Token{}) || ok {
				t.Errorf("At of nothing: %v, %v", k, ok)
			}
			if span, err := x.Splice(place, 1, strings.Repeat("a", api.MaxText+1)); span != (api.Span{}) || err != api.ErrArg {
				t.Errorf("Splice of nothing: %v, %d", span, err)
			}
		}
	}
	x := &relex.Tape{Scanner: &scan.Scanner{}}
	x.Splice(0, 0, "ab")
	x.Splice(1, 1, "ab")
	x.At(0)
}

// TestRandom edits texts by chance, and holds what is told against the chapter's words.
func TestRandom(t *testing.T) {
	r := rand.New(rand.NewSource(1))
	for _, written := range [][]string{
		{"[a-c]+", `\s+`},
		{"a", "a*b"},
		{"a", `a[a-c\s]*!`, `\s+`},
		{"a", "b", `ab?c[a-c]*\s`, "(ab)*!"},
		{`"[^"]*"`, `\s+`, "[a-c]+", "/", `//[^\n]*`, `/\*([^*]|\*+[^*/])*\*+/`},
		{"(a|b)(a|b)(a|b)", "c+a", "ab"},
		{`[a-c"/*!\s\n]`},
		{"z"},
	} {
		s := scannerOf(t, written...)
		for range 150 {
			text := randomText(r)
			x := tapeOf(t, s, text)
			count := x.Scanned()
			for range 12 {
				from := r.Intn(len(text) + 1)
				to := from + r.Intn(min(6, len(text)-from+1))
				with := randomText(r)
				if r.Intn(2) == 0 {
					with = with[:min(len(with), 2)]
				}
				want := anew(t, s, text, from, to, with)
				span, err := x.Splice(from, to, with)
				if span != want || err != api.OK {
					t.Fatalf("%q: Splice(%d, %d, %q) of %q: %v, %d, wanted %v", written, from, to, with, text, span, err, want)
				}
				text = text[:from] + with + text[to:]
				count += want.To - want.From
				wants(t, s, x, text, count)
			}
		}
	}
}

// randomText is a short text of few letters.
func randomText(r *rand.Rand) string {
	b := make([]byte, r.Intn(14))
	for i := range b {
		b[i] = "aaabbcc\"/*! \n"[r.Intn(13)]
	}
	return string(b)
}

// TestFarLooks edits a long text of which each token looks at the end.
func TestFarLooks(t *testing.T) {
	const size = api.MaxText / 4
	s := scannerOf(t, "a", "a*b")
	text := strings.Repeat("a", size)
	x := tapeOf(t, s, text)
	wants(t, s, x, text, size)
	if span, err := x.Splice(size, size, "a"); span != (api.Span{To: size + 1}) || err != api.OK {
		t.Errorf("Splice at the end: %v, %d", span, err)
	}
	wants(t, s, x, text+"a", 2*size+1)
	if span, err := x.Splice(7, 7, "b"); span != (api.Span{To: 1}) || err != api.OK {
		t.Errorf("Splice near the beginning: %v, %d", span, err)
	}
	wants(t, s, x, text[:7]+"b"+text[7:]+"a", 2*size+2)
	if span, err := x.Splice(7, 8, ""); span != (api.Span{To: 7}) || err != api.OK {
		t.Errorf("Splice near the beginning, back: %v, %d", span, err)
	}
	wants(t, s, x, text+"a", 2*size+9)
}

// TestFarLooksUpTo edits a byte up to which many tokens look: these are scanned anew, those behind it aren't.
func TestFarLooksUpTo(t *testing.T) {
	s := scannerOf(t, "a", "a*b")
	many := strings.Repeat("a", 1000)
	for _, c := range []struct{ text, with string }{{many + "?", ""}, {many + "?", "!"}, {many + "?a?" + many, "!"}, {many + "?a?", "!!"}, {"?" + many + "?" + many, "a?"}, {many + "?", "b"}} {
		x := tapeOf(t, s, c.text)
		count, from := x.Scanned(), strings.Index(c.text[1:], "?")+1
		want := anew(t, s, c.text, from, from+1, c.with)
		if span, err := x.Splice(from, from+1, c.with); span != want || err != api.OK {
			t.Errorf("Splice: %v, %d, wanted %v", span, err, want)
		}
		wants(t, s, x, c.text[:from]+c.with+c.text[from+1:], count+want.To-want.From)
	}
}

// TestManySplices types a long text, byte by byte, amid another one.
func TestManySplices(t *testing.T) {
	s := scannerOf(t, "[a-z]+", `\s+`)
	text := strings.Repeat("abc def ", 4000)
	x := tapeOf(t, s, text)
	count, at := x.Scanned(), len(text)/2
	for i := range 2000 {
		with := "a"
		if i%5 == 4 {
			with = " "
		}
		span, err := x.Splice(at, at, with)
		if span.To-span.From > 3 || err != api.OK {
			t.Fatalf("Splice(%d): %v, %d", at, span, err)
		}
		count += span.To - span.From
		text = text[:at] + with + text[at:]
		at++
	}
	wants(t, s, x, text, count)
}

// TestOwnMemory changes what was answered.
func TestOwnMemory(t *testing.T) {
	s := scannerOf(t, "[a-z]+", `\s+`)
	x := tapeOf(t, s, "ab cd ef")
	spoil := func(l []scan.Token) {
		l = l[:cap(l)]
		for i := range l {
			l[i] = scan.Token{Class: 9, From: 9, To: 9, Look: 9}
		}
	}
	before := x.Tokens()
	spoil(x.Tokens())
	wants(t, s, x, "ab cd ef", 5)
	x.Splice(3, 3, "x y")
	if !slices.Equal(before, scanned(t, s, "ab cd ef")) {
		t.Errorf("what was answered has changed: %v", before)
	}
	count := x.Scanned()
	spoil(before)
	spoil(x.Tokens())
	wants(t, s, x, "ab x ycd ef", count)
	x.Splice(11, 11, "")
	spoil(x.Tokens())
	wants(t, s, x, "ab x ycd ef", count+1)
}

// TestTwoTapes edits two tapes of one scanner, which is the tapes' own, too.
func TestTwoTapes(t *testing.T) {
	s := scannerOf(t, "[a-z]+", `\s+`)
	x, y := tapeOf(t, s, "ab cd"), tapeOf(t, s, "ab cd")
	x.Splice(1, 1, " ")
	wants(t, s, x, "a b cd", 6)
	wants(t, s, y, "ab cd", 3)
	if n, ok := x.Find("b"); n != 1 || !ok {
		t.Errorf("Find: %d, %v", n, ok)
	}
	if l := x.Solid(x.Tokens()); len(l) != 3 {
		t.Errorf("Solid: %v", l)
	}
}
