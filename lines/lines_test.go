package lines_test

import (
	"math"
	"strings"
	"testing"
	"unsafe"

	"frisket/api"
	"frisket/lines"
)

// texts is all texts of some bytes, of at most so many of them.
func texts(bytes string, most int) []string {
	all := []string{""}
	for i := 0; i < len(all) && len(all[i]) < most; i++ {
		for _, b := range []byte(bytes) {
			all = append(all, all[i]+string([]byte{b}))
		}
	}
	return all
}

// placeOf is a place's line and column, counted byte by byte.
func placeOf(s string, at int) (line, column int) {
	for _, b := range []byte(s[:at]) {
		column++
		if b == 10 {
			line, column = line+1, 0
		}
	}
	return line, column
}

// indentOf is how many blanks and tabs a line begins with.
func indentOf(line string) int {
	n := 0
	for n < len(line) && (line[n] == 32 || line[n] == 9) {
		n++
	}
	return n
}

// checkIndex holds all that an index tells against a text's lines.
func checkIndex(t *testing.T, x *lines.Index, s string) {
	t.Helper()
	all := strings.Split(s, "\n")
	if x.Text() != s || x.Count() != len(all) {
		t.Fatalf("%q: Text %q, Count %d", s, x.Text(), x.Count())
	}
	begin := 0
	for n, line := range all {
		want := api.Span{From: begin, To: begin + len(line)}
		if got, err := x.Line(n); got != want || err != api.OK {
			t.Fatalf("%q: Line(%d): %v, %d, not %v", s, n, got, err, want)
		}
		if got := x.Indent(n); got != indentOf(line) {
			t.Fatalf("%q: Indent(%d): %d", s, n, got)
		}
		for column := range len(line) + 1 {
			if at, err := x.Offset(n, column); at != begin+column || err != api.OK {
				t.Fatalf("%q: Offset(%d, %d): %d, %d", s, n, column, at, err)
			}
		}
		checkNoOffset(t, x, n, -1)
		checkNoOffset(t, x, n, len(line)+1)
		checkNoOffset(t, x, n, math.MinInt)
		checkNoOffset(t, x, n, math.MaxInt)
		begin += len(line) + 1
	}
	for at := range len(s) + 1 {
		line, column := placeOf(s, at)
		n, c, err := x.Place(at)
		if n != line || c != column || err != api.OK {
			t.Fatalf("%q: Place(%d): %d, %d, %d, not %d, %d", s, at, n, c, err, line, column)
		}
		if back, err := x.Offset(n, c); back != at || err != api.OK {
			t.Fatalf("%q: Offset(Place(%d)): %d, %d", s, at, back, err)
		}
	}
	checkNoPlaces(t, x, len(s), len(all))
}

// checkNoPlaces asks for what isn't there in a text of so many bytes and lines.
func checkNoPlaces(t *testing.T, x *lines.Index, size, count int) {
	t.Helper()
	for _, at := range []int{math.MinInt, -1, size + 1, math.MaxInt} {
		if n, c, err := x.Place(at); n != 0 || c != 0 || err != api.ErrRange {
			t.Fatalf("Place(%d) of %d bytes: %d, %d, %d", at, size, n, c, err)
		}
	}
	for _, n := range []int{math.MinInt, -1, count, count + 1, math.MaxInt} {
		if l, err := x.Line(n); l != (api.Span{}) || err != api.ErrRange {
			t.Fatalf("Line(%d) of %d lines: %v, %d", n, count, l, err)
		}
		if got := x.Indent(n); got != 0 {
			t.Fatalf("Indent(%d) of %d lines: %d", n, count, got)
		}
		checkNoOffset(t, x, n, 0)
	}
}

func checkNoOffset(t *testing.T, x *lines.Index, line, column int) {
	t.Helper()
	if at, err := x.Offset(line, column); at != 0 || err != api.ErrRange {
		t.Fatalf("%q: Offset(%d, %d): %d, %d", x.Text(), line, column, at, err)
	}
}

// P3.1, P3.3
func TestEveryShortText(t *testing.T) {
	for _, s := range texts("\n a", 7) {
		checkIndex(t, lines.New(s), s)
	}
	for _, s := range texts("\n\t\r ", 5) {
		checkIndex(t, lines.New(s), s)
	}
}

// P3.1: bytes that aren't 10 end no line, and only blanks and tabs are an indent.
func TestOtherBytes(t *testing.T) {
	all := make([]byte, 0, 512)
	for b := range 256 {
		all = append(all, byte(b), 'x')
	}
	checkIndex(t, lines.New(string(all)), string(all))
	for b := range 256 {
		s := string([]byte{' ', '\t', byte(b), ' '})
		checkIndex(t, lines.New(s), s)
	}
	s := "\u00a0x\n\u2028\x85\n\v\f\r\n"
	checkIndex(t, lines.New(s), s)
}

// P3.1: the document's example.
func TestExample(t *testing.T) {
	n, c, err := lines.New("ab\nc").Place(3)
	if n != 1 || c != 0 || err != api.OK {
		t.Errorf("%d, %d, %d", n, c, err)
	}
}

// P3.2, P3.3
func TestEveryUpdate(t *testing.T) {
	withs := []string{"", "\n", "a", " \n", "\n\n\n", "a\nb"}
	for _, s := range texts("\na", 5) {
		x := lines.New(s)
		for from := range len(s) + 1 {
			for to := from; to <= len(s); to++ {
				for _, with := range withs {
					y, err := x.Update(from, to, with)
					if err != api.OK {
						t.Fatalf("%q: Update(%d, %d, %q): %d", s, from, to, with, err)
					}
					checkIndex(t, y, s[:from]+with+s[to:])
				}
			}
		}
		checkIndex(t, x, s)
	}
}

// P3.2: places that aren't there.
func TestWrongUpdates(t *testing.T) {
	for _, s := range []string{"", "\n", "ab\nc"} {
		x := lines.New(s)
		for _, p := range [][2]int{{-1, 0}, {0, len(s) + 1}, {len(s) + 1, len(s) + 1}, {1, 0}, {len(s), len(s) - 1}, {-2, -1},
			{math.MinInt, math.MaxInt}, {math.MaxInt, math.MaxInt}, {math.MaxInt, math.MinInt}, {0, math.MinInt}} {
			if y, err := x.Update(p[0], p[1], "x\n"); y != nil || err != api.ErrRange {
				t.Errorf("%q: Update(%d, %d): %v, %d", s, p[0], p[1], y, err)
			}
		}
		checkIndex(t, x, s)
	}
}

// P3.2, P3.3: updates of updates, each index as it was behind all of them.
func TestManyUpdates(t *testing.T) {
	dice := uint32(1)
	throw := func(n int) int {
		dice = dice*1664525 + 1013904223
		return int(dice>>8) % n
	}
	withs := []string{"", "", "\n", "a", "\tb\n", "\n\n", "ccc", "d\ne\nf"}
	s := "ab\n  c\n"
	x := lines.New(s)
	type seen struct {
		x *lines.Index
		s string
	}
	var past []seen
	for range 400 {
		past = append(past, seen{x, s})
		from := throw(len(s) + 1)
		to := min(len(s), from+throw(6))
		with := withs[throw(len(withs))]
		y, err := x.Update(from, to, with)
		if err != api.OK {
			t.Fatalf("Update: %d", err)
		}
		x, s = y, s[:from]+with+s[to:]
		checkIndex(t, x, s)
	}
	for _, p := range past {
		checkIndex(t, p.x, p.s)
	}
}

// P3.2: of no index, and of one that New didn't make nothing panics.
func TestNoIndex(t *testing.T) {
	var none *lines.Index
	if none.Text() != "" || none.Count() != 0 {
		t.Errorf("Text %q, Count %d", none.Text(), none.Count())
	}
	checkNoPlaces(t, none, -1, 0)
	if y, err := none.Update(0, 0, ""); y != nil || err != api.ErrRange {
		t.Errorf("Update: %v, %d", y, err)
	}
	bare := new(lines.Index)
	bare.Place(0)
	bare.Offset(0, 0)
	bare.Indent(0)
	bare.Line(0)
	bare.Update(0, 0, "a\n")
}

// What is handed in isn't kept, and what is answered is new memory.
func TestNewMemory(t *testing.T) {
	s := strings.Repeat("a\n", 8)
	x := lines.New(s)
	y, _ := x.Update(0, len(s), s)
	z, _ := x.Update(3, 3, "")
	for _, other := range []string{x.Text(), x.Text(), y.Text(), z.Text()} {
		if other != s || unsafe.StringData(other) == unsafe.StringData(s) {
			t.Errorf("kept: %q", other)
		}
	}
}

// A long text of many lines is still asked quickly.
func TestLongText(t *testing.T) {
	s := strings.Repeat("\n", api.MaxText)
	x := lines.New(s)
	for at := 0; at <= len(s); at++ {
		if n, c, err := x.Place(at); n != at || c != 0 || err != api.OK {
			t.Fatalf("Place(%d): %d, %d, %d", at, n, c, err)
		}
	}
	y, err := x.Update(len(s), len(s), s+"ab")
	if n, c, _ := y.Place(2*len(s) + 2); err != api.OK || n != 2*len(s) || c != 2 {
		t.Errorf("%d: %d, %d", err, n, c)
	}
}
