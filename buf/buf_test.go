package buf_test

import (
	"slices"
	"strings"
	"testing"

	"frisket/api"
	"frisket/buf"
	"frisket/edits"
)

func newBuffer(t *testing.T, s string) *buf.Buffer {
	t.Helper()
	b, e := buf.New(s)
	if e != api.OK || b == nil {
		t.Fatalf("New: %d", e)
	}
	return b
}

// seen is all that a buffer tells of itself.
type seen struct {
	text         string
	past, future int
}

func look(b *buf.Buffer) seen {
	return seen{b.Text(), b.Past(), b.Future()}
}

func expect(t *testing.T, b *buf.Buffer, text string, past, future int) {
	t.Helper()
	if got, want := look(b), (seen{text, past, future}); got != want {
		t.Errorf("got %+v, want %+v", got, want)
	}
	if b.Len() != len(text) {
		t.Errorf("Len: %d, want %d", b.Len(), len(text))
	}
}

// P2.1: a new buffer has its text, and no past.
func TestNew(t *testing.T) {
	for _, s := range []string{"", "abc", "\x00\xff\n", strings.Repeat("x", api.MaxText)} {
		b := newBuffer(t, s)
		expect(t, b, s, 0, 0)
		if b.Pieces() != 1 {
			t.Errorf("Pieces: %d", b.Pieces())
		}
	}
	if b, e := buf.New(strings.Repeat("x", api.MaxText+1)); b != nil || e != api.ErrLong {
		t.Errorf("New of a byte too many: %v, %d", b, e)
	}
}

func TestExample(t *testing.T) {
	b := newBuffer(t, "abc")
	if e := b.Splice(1, 2, "xy"); e != api.OK {
		t.Errorf("Splice: %d", e)
	}
	expect(t, b, "axyc", 1, 0)
	b.Undo()
	expect(t, b, "abc", 0, 1)
}

// inPieces is a buffer of the text abcdefg, of several pieces.
func inPieces(t *testing.T) *buf.Buffer {
	b := newBuffer(t, "aXcg")
	b.Splice(1, 2, "b")
	b.Splice(3, 3, "def")
	if b.Pieces() < 2 {
		t.Fatal("one piece alone")
	}
	return b
}

// P2.1: Slice and At, at all places and beside them.
func TestSliceAndAt(t *testing.T) {
	s := "abcdefg"
	for _, b := range []*buf.Buffer{newBuffer(t, s), inPieces(t)} {
		for from := -1; from <= len(s)+1; from++ {
			for to := -1; to <= len(s)+1; to++ {
				want, err := "", api.ErrRange
				if 0 <= from && from <= to && to <= len(s) {
					want, err = s[from:to], api.OK
				}
				if got, e := b.Slice(from, to); got != want || e != err {
					t.Errorf("Slice(%d, %d): %q, %d", from, to, got, e)
				}
			}
			x, ok := b.At(from)
			if in := 0 <= from && from < len(s); ok != in || in && x != s[from] || !in && x != 0 {
				t.Errorf("At(%d): %d, %v", from, x, ok)
			}
		}
	}
}

// P2.1: a failing step changes nothing; the error that is named first is told.
func TestWrongSteps(t *testing.T) {
	b := newBuffer(t, "abc")
	b.Splice(0, 0, "x")
	b.Splice(0, 0, "y")
	b.Undo()
	before, long := look(b), strings.Repeat("z", api.MaxText+1)
	for _, x := range []struct {
		from, to int
		with     string
		err      api.Errno
	}{
		{-1, 0, "", api.ErrRange}, {2, 1, "", api.ErrRange}, {0, 5, "", api.ErrRange}, {5, 5, "", api.ErrRange},
		{3, 5, long, api.ErrRange}, {0, 0, long, api.ErrLong}, {0, 4, long, api.ErrLong},
	} {
		if e := b.Splice(x.from, x.to, x.with); e != x.err {
			t.Errorf("Splice(%d, %d): %d, want %d", x.from, x.to, e, x.err)
		}
		if e := b.Apply(api.Edit{From: x.from, To: x.to, With: x.with}); e != x.err {
			t.Errorf("Apply(%d, %d): %d, want %d", x.from, x.to, e, x.err)
		}
	}
	if e := b.Apply(api.Edit{From: 0, To: 2}, api.Edit{From: 1, To: 3}); e != api.ErrRange {
		t.Errorf("Apply of crossed edits: %d", e)
	}
	if e := b.Apply(api.Edit{From: 0, To: 1}, api.Edit{From: 2, To: 9, With: long}); e != api.ErrRange {
		t.Errorf("Apply of a right edit and a wrong one: %d", e)
	}
	if look(b) != before {
		t.Errorf("changed: %+v", look(b))
	}
	if _, ok := b.Redo(); !ok || b.Text() != "yxabc" {
		t.Errorf("Redo behind errors: %q", b.Text())
	}
}

// P2.1: up to MaxText bytes, and not one more.
func TestMaxText(t *testing.T) {
	b := newBuffer(t, strings.Repeat("x", api.MaxText-1))
	if e := b.Splice(0, 0, "yz"); e != api.ErrLong || b.Past() != 0 {
		t.Errorf("a byte too many: %d", e)
	}
	if e := b.Splice(api.MaxText-1, api.MaxText-1, "y"); e != api.OK || b.Len() != api.MaxText {
		t.Errorf("just as many: %d", e)
	}
	if e := b.Apply(api.Edit{From: 0, To: 1, With: "ab"}, api.Edit{From: 2, To: 3}); e != api.OK || b.Len() != api.MaxText {
		t.Errorf("one more and one less: %d", e)
	}
	if e := b.Apply(api.Edit{From: 0, To: 1}, api.Edit{From: 2, To: 3, With: "abc"}); e != api.ErrLong || b.Past() != 2 {
		t.Errorf("one less and two more: %d", e)
	}
	if got, _ := b.Slice(0, 3); got != "abx" {
		t.Errorf("begins %q", got)
	}
}

// P2.1: all edits are one step, bare ones and none at all, too.
func TestOneStep(t *testing.T) {
	b := newBuffer(t, "abc")
	b.Apply(api.Edit{From: 0, To: 1, With: "A"}, api.Edit{From: 1, To: 1, With: "-"}, api.Edit{From: 1, To: 2}, api.Edit{From: 3, To: 3, With: "!"})
	expect(t, b, "A-c!", 1, 0)
	b.Apply()
	b.Splice(2, 2, "")
	expect(t, b, "A-c!", 3, 0)
	if l, ok := b.Undo(); !ok || !slices.Equal(l, []api.Edit{{From: 2, To: 2}}) {
		t.Errorf("Undo of a bare edit: %v, %v", l, ok)
	}
	if l, ok := b.Undo(); !ok || len(l) != 0 {
		t.Errorf("Undo of no edits: %v, %v", l, ok)
	}
	b.Undo()
	expect(t, b, "abc", 0, 3)
}

// P2.2: what Undo and Redo tell are the edits that they made.
func TestUndoAndRedoTell(t *testing.T) {
	b := newBuffer(t, "abcdef")
	step := []api.Edit{{From: 1, To: 3, With: "bXYZ"}, {From: 3, To: 3, With: ""}, {From: 5, To: 6, With: "f"}}
	b.Apply(step...)
	want, _ := edits.Turn("abcdef", step...)
	if l, ok := b.Undo(); !ok || !slices.Equal(l, want) {
		t.Errorf("Undo: %v, want %v", l, want)
	}
	if l, ok := b.Redo(); !ok || !slices.Equal(l, step) {
		t.Errorf("Redo: %v, want %v", l, step)
	}
	expect(t, b, "abXYZdef", 1, 0)
}

// P2.2: without a step there is nothing to undo or redo, and a new step ends the future.
func TestNoSteps(t *testing.T) {
	b := newBuffer(t, "abc")
	if l, ok := b.Undo(); ok || len(l) != 0 {
		t.Errorf("Undo: %v, %v", l, ok)
	}
	if l, ok := b.Redo(); ok || len(l) != 0 {
		t.Errorf("Redo: %v, %v", l, ok)
	}
	b.Splice(0, 1, "x")
	b.Splice(1, 2, "y")
	b.Undo()
	b.Undo()
	expect(t, b, "abc", 0, 2)
	b.Splice(2, 3, "z")
	expect(t, b, "abz", 1, 0)
	if _, ok := b.Redo(); ok {
		t.Error("Redo behind a new step")
	}
}

// P2.1: of more than MaxHistory steps the first one is forgotten.
func TestMaxHistory(t *testing.T) {
	b := newBuffer(t, "")
	for i := range api.MaxHistory {
		b.Splice(i, i, string(rune('a'+i%26)))
	}
	if b.Past() != api.MaxHistory {
		t.Errorf("Past: %d", b.Past())
	}
	all := b.Text()
	b.Splice(0, 0, "!")
	if b.Past() != api.MaxHistory {
		t.Errorf("Past behind one more: %d", b.Past())
	}
	steps := 0
	for _, ok := b.Undo(); ok; _, ok = b.Undo() {
		steps++
	}
	if steps != api.MaxHistory || b.Text() != "a" || b.Future() != api.MaxHistory {
		t.Errorf("undone: %d steps, %q, future %d", steps, b.Text(), b.Future())
	}
	for _, ok := b.Redo(); ok; _, ok = b.Redo() {
	}
	expect(t, b, "!"+all, api.MaxHistory, 0)
}

// P2.1, P2.2: a nil buffer, and one that New didn't make.
func TestNoBuffer(t *testing.T) {
	for _, b := range []*buf.Buffer{nil, {}} {
		expect(t, b, "", 0, 0)
		if s, e := b.Slice(0, 0); s != "" || e != api.OK {
			t.Errorf("Slice(0, 0): %q, %d", s, e)
		}
		if s, e := b.Slice(0, 1); s != "" || e != api.ErrRange {
			t.Errorf("Slice(0, 1): %q, %d", s, e)
		}
		if x, ok := b.At(0); x != 0 || ok {
			t.Errorf("At: %d, %v", x, ok)
		}
		if l, ok := b.Undo(); len(l) != 0 || ok {
			t.Errorf("Undo: %v, %v", l, ok)
		}
		if l, ok := b.Redo(); len(l) != 0 || ok {
			t.Errorf("Redo: %v, %v", l, ok)
		}
	}
	var none *buf.Buffer
	if none.Pieces() != 0 || none.Splice(5, 2, "") != api.ErrArg || none.Apply() != api.ErrArg || none.Apply(api.Edit{From: -1}) != api.ErrArg {
		t.Error("a nil buffer")
	}
}

// A buffer that was copied is none that New made: no call of either may panic.
func TestCopiedBuffer(t *testing.T) {
	b := newBuffer(t, "abcdef")
	b.Splice(0, 0, "x")
	b.Splice(0, 0, "y")
	b.Undo()
	other := *b
	b.Splice(0, 7, "")
	other.Splice(7, 7, "a longer text")
	for _, x := range []*buf.Buffer{b, &other, b} {
		x.Undo()
		x.Undo()
		x.Redo()
		x.Splice(0, 0, "z")
		x.Slice(0, x.Len())
		x.At(x.Len() - 1)
		x.Text()
		x.Pieces()
	}
}

// Rule 4: edits that were handed in or told aren't kept.
func TestNothingIsKept(t *testing.T) {
	b := newBuffer(t, "abc")
	room := []api.Edit{{From: 0, To: 1, With: "x"}, {From: 2, To: 3, With: "z"}, {From: 7, To: 1, With: "room"}}
	before := slices.Clone(room)
	b.Apply(room[:2]...)
	if !slices.Equal(room, before) {
		t.Errorf("changed: %v", room)
	}
	clear(room)
	told, _ := b.Undo()
	expect(t, b, "abc", 0, 1)
	clear(told)
	told, _ = b.Redo()
	expect(t, b, "xbz", 1, 0)
	clear(told)
	b.Undo()
	expect(t, b, "abc", 0, 1)
}
