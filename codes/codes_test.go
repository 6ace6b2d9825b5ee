package codes_test

import (
	"math"
	"slices"
	"strings"
	"testing"
	"unicode/utf8"

	"frisket/api"
	"frisket/codes"
)

const most = 1114111

// isCode tells whether a number is a code point.
func isCode(n int) bool {
	return n >= 0 && n <= most && !(n >= 55296 && n <= 57343)
}

// bytesOf are a code point's bytes, as the document writes them.
func bytesOf(n int) string {
	switch {
	case n <= 127:
		return string([]byte{byte(n)})
	case n <= 2047:
		return string([]byte{byte(192 + n/64), byte(128 + n%64)})
	case n <= 65535:
		return string([]byte{byte(224 + n/4096), byte(128 + n/64%64), byte(128 + n%64)})
	}
	return string([]byte{byte(240 + n/262144), byte(128 + n/4096%64), byte(128 + n/64%64), byte(128 + n%64)})
}

// stepped is the code point that begins at a place, as the library tells it.
func stepped(s string, at int) (int, int, bool) {
	if at < 0 || at >= len(s) {
		return 0, 0, false
	}
	r, size := utf8.DecodeRuneInString(s[at:])
	if r == utf8.RuneError && size == 1 {
		return 0, 0, false
	}
	return int(r), size, true
}

// P4.1, P4.3: every code point, and numbers that are none.
func TestEveryNumber(t *testing.T) {
	for n := -70000; n <= most+70000; n++ {
		s, ok := codes.Encode(n)
		if !isCode(n) {
			if s != "" || ok {
				t.Fatalf("Encode(%d): %q, %v", n, s, ok)
			}
			continue
		}
		if s != bytesOf(n) || !ok {
			t.Fatalf("Encode(%d): %q, %v", n, s, ok)
		}
		if m, size, ok := codes.Step(s, 0); m != n || size != len(s) || !ok {
			t.Fatalf("Step(%q, 0): %d, %d, %v", s, m, size, ok)
		}
		if l, count, err := codes.Decode(s); !slices.Equal(l, []int{n}) || count != 1 || err != api.OK {
			t.Fatalf("Decode(%q): %v, %d, %d", s, l, count, err)
		}
		if at := codes.First(s); at != -1 {
			t.Fatalf("First(%q): %d", s, at)
		}
	}
}

// P4.1
func TestEncodeLists(t *testing.T) {
	l := []int{0, 127, 128, 2047, 2048, 8364, 55295, 57344, 65535, 65536, most}
	kept := slices.Clone(l)
	var want strings.Builder
	for _, n := range l {
		want.WriteString(bytesOf(n))
	}
	s, ok := codes.Encode(l...)
	if s != want.String() || !ok || !slices.Equal(l, kept) {
		t.Errorf("Encode: %q, %v", s, ok)
	}
	if back, count, err := codes.Decode(s); !slices.Equal(back, l) || count != len(l) || err != api.OK {
		t.Errorf("Decode: %v, %d, %d", back, count, err)
	}
	for _, wrong := range []int{-1, 55296, 57343, most + 1, math.MinInt, math.MaxInt, 1 << 32, 1<<32 + 65} {
		for at := range len(l) + 1 {
			if s, ok := codes.Encode(slices.Insert(slices.Clone(l), at, wrong)...); s != "" || ok {
				t.Errorf("Encode with %d: %q, %v", wrong, s, ok)
			}
		}
	}
	if s, ok := codes.Encode(); s != "" || !ok {
		t.Errorf("Encode(): %q, %v", s, ok)
	}
	if s, _ := codes.Encode(8364); s != "\xe2\x82\xac" {
		t.Errorf("Encode(8364): %q", s)
	}
}

// checkText holds all that is told of a text against what the library steps through.
func checkText(t *testing.T, s string) {
	t.Helper()
	var l []int
	at := 0
	for {
		n, size, ok := stepped(s, at)
		if !ok {
			break
		}
		l = append(l, n)
		at += size
	}
	first := at
	got, count, err := codes.Decode(s)
	if at == len(s) {
		first = -1
		if !slices.Equal(got, l) || count != len(l) || err != api.OK {
			t.Fatalf("Decode(%q): %v, %d, %d", s, got, count, err)
		}
		if back, ok := codes.Encode(got...); back != s || !ok {
			t.Fatalf("Encode(Decode(%q)): %q, %v", s, back, ok)
		}
	} else if len(got) != 0 || count != at || err != api.ErrCode {
		t.Fatalf("Decode(%q): %v, %d, %d", s, got, count, err)
	}
	if got := codes.First(s); got != first {
		t.Fatalf("First(%q): %d", s, got)
	}
	if got := codes.Size(s); got != len(l) {
		t.Fatalf("Size(%q): %d", s, got)
	}
	if got := codes.Columns(s); got != utf8.RuneCountInString(s) {
		t.Fatalf("Columns(%q): %d", s, got)
	}
	for at := -1; at <= len(s)+1; at++ {
		n, size, ok := codes.Step(s, at)
		if m, length, right := stepped(s, at); n != m || size != length || ok != right {
			t.Fatalf("Step(%q, %d): %d, %d, %v", s, at, n, size, ok)
		}
	}
}

// P4.1, P4.2: all texts of the bytes at the bounds.
func TestBytesAtBounds(t *testing.T) {
	bounds := []byte{0, 'a', 127, 128, 143, 144, 159, 160, 191, 192, 193, 194, 223, 224, 225, 237, 239, 240, 241, 244, 245, 248, 255}
	var all func(s string, more int)
	all = func(s string, more int) {
		checkText(t, s)
		if more > 0 {
			for _, b := range bounds {
				all(s+string([]byte{b}), more-1)
			}
		}
	}
	all("", 4)
}

// P4.1: every first byte and every byte behind it.
func TestEveryPairOfBytes(t *testing.T) {
	for a := range 256 {
		for b := range 256 {
			for _, tail := range []string{"", "\x80", "\x80\x80", "\xbf\xbf", "x"} {
				checkText(t, string([]byte{byte(a), byte(b)})+tail)
			}
		}
	}
}

// P4.2: what stands behind the first wrong byte.
func TestBehindWrongBytes(t *testing.T) {
	cases := []struct {
		s                    string
		first, size, columns int
	}{
		{"", -1, 0, 0},
		{"\u00e9x", -1, 2, 2},
		{"a\u20ac\xffb\u20ac", 4, 2, 5},
		{"\xe2\x82", 0, 0, 2},
		{"a\xe2\x82\u20ac", 1, 1, 4},
		{"\xed\xa0\x80", 0, 0, 3},
		{"\xc0\x80", 0, 0, 2},
		{"\xf4\x90\x80\x80", 0, 0, 4},
		{"\xf0\x9f\x98\x80\x80", 4, 1, 2},
		{"ab\x80cd\x80", 2, 2, 6},
	}
	for _, c := range cases {
		if codes.First(c.s) != c.first || codes.Size(c.s) != c.size || codes.Columns(c.s) != c.columns {
			t.Errorf("%q: First %d, Size %d, Columns %d", c.s, codes.First(c.s), codes.Size(c.s), codes.Columns(c.s))
		}
		checkText(t, c.s)
	}
}

// P4.1: places that aren't there.
func TestNoStep(t *testing.T) {
	for _, at := range []int{math.MinInt, -1, 1, 2, math.MaxInt} {
		if n, size, ok := codes.Step("a", at); n != 0 || size != 0 || ok {
			t.Errorf("Step(%d): %d, %d, %v", at, n, size, ok)
		}
	}
}

// P4.1: an answer is new memory each time.
func TestDecodeNewMemory(t *testing.T) {
	first, _, _ := codes.Decode("abc")
	first[0] = 0
	if second, _, _ := codes.Decode("abc"); !slices.Equal(second, []int{97, 98, 99}) {
		t.Errorf("%v", second)
	}
}
