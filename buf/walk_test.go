package buf_test

import (
	"slices"
	"strings"
	"testing"

	"frisket/api"
	"frisket/buf"
	"frisket/edits"
)

// dice are numbers that look thrown, and are the same each time.
type dice uint64

func (d *dice) below(n int) int {
	*d = *d*6364136223846793005 + 1442695040888963407
	return int(uint64(*d) >> 33 % uint64(n))
}

// model is a buffer that keeps all of its texts, and with each the edits that made it of the one ahead.
type model struct {
	texts []string
	steps [][]api.Edit // steps[i] made texts[i+1]
	now   int
	made  int // edits of the steps that are done
}

func (m *model) text() string { return m.texts[m.now] }

func (m *model) step(l []api.Edit, text string) {
	m.texts = append(slices.Clone(m.texts[:m.now+1]), text)
	m.steps = append(slices.Clone(m.steps[:m.now]), l)
	m.now++
	m.made += len(l)
	if m.now > api.MaxHistory {
		m.texts, m.steps, m.now = m.texts[1:], m.steps[1:], m.now-1
	}
}

// throwEdits are right edits of n bytes.
func throwEdits(d *dice, n int) []api.Edit {
	var l []api.Edit
	for at := 0; len(l) < 4; {
		from := at + d.below(n-at+1)
		to := min(n, from+d.below(4))
		l = append(l, api.Edit{From: from, To: to, With: "pqrstuvw"[:d.below(6)]})
		if at = to; d.below(3) == 0 {
			break
		}
	}
	return l
}

// check holds a buffer against its model: the text, as a whole and in part, the steps, and the bounds of Pieces.
func check(t *testing.T, b *buf.Buffer, m *model, d *dice) {
	t.Helper()
	text := m.text()
	if b.Text() != text || b.Len() != len(text) || b.Past() != m.now || b.Future() != len(m.texts)-1-m.now {
		t.Fatalf("got %q (%d, %d), want %q (%d, %d)", b.Text(), b.Past(), b.Future(), text, m.now, len(m.texts)-1-m.now)
	}
	from := d.below(len(text) + 1)
	to := from + d.below(len(text)-from+1)
	if s, e := b.Slice(from, to); s != text[from:to] || e != api.OK {
		t.Fatalf("Slice(%d, %d): %q, %d", from, to, s, e)
	}
	if x, ok := b.At(from); ok != (from < len(text)) || ok && x != text[from] {
		t.Fatalf("At(%d): %d, %v", from, x, ok)
	}
	if p := b.Pieces(); p < 1 || p > 1+2*m.made {
		t.Fatalf("Pieces: %d, with %d edits", p, m.made)
	}
}

// walk does one step that was thrown, of a buffer and of its model.
func walk(t *testing.T, b *buf.Buffer, m *model, d *dice) {
	t.Helper()
	before := m.text()
	switch k := d.below(10); {
	case k < 4:
		l := throwEdits(d, len(before))
		text, _ := edits.Apply(before, l...)
		if e := b.Apply(l...); e != api.OK {
			t.Fatalf("Apply(%v): %d", l, e)
		}
		m.step(l, text)
	case k < 7:
		l, ok := b.Undo()
		if ok != (m.now > 0) {
			t.Fatalf("Undo: %v", ok)
		}
		if !ok {
			return
		}
		m.now--
		m.made -= len(m.steps[m.now])
		if text, e := edits.Apply(before, l...); text != m.text() || e != api.OK || len(l) != len(m.steps[m.now]) {
			t.Fatalf("Undo told %v", l)
		}
	default:
		l, ok := b.Redo()
		if ok != (m.now < len(m.texts)-1) {
			t.Fatalf("Redo: %v", ok)
		}
		if !ok {
			return
		}
		if !slices.Equal(l, m.steps[m.now]) {
			t.Fatalf("Redo told %v, want %v", l, m.steps[m.now])
		}
		m.made += len(l)
		m.now++
	}
}

// P2.1, P2.2, P2.3: long walks of steps, held against the texts that there were.
func TestWalks(t *testing.T) {
	for seed := range 40 {
		d := dice(seed)
		start := strings.Repeat("abc", d.below(20))
		b, m := newBuffer(t, start), &model{texts: []string{start}}
		for range 400 {
			walk(t, b, m, &d)
			check(t, b, m, &d)
		}
	}
}

// P2.3: all the way back, and all the way again, past the end of the history.
func TestThereAndBack(t *testing.T) {
	d := dice(7)
	b, m := newBuffer(t, "abc"), &model{texts: []string{"abc"}}
	for range api.MaxHistory + 50 {
		l := throwEdits(&d, len(m.text()))
		text, _ := edits.Apply(m.text(), l...)
		b.Apply(l...)
		m.step(l, text)
		check(t, b, m, &d)
	}
	for m.now > 0 {
		b.Undo()
		m.now--
		m.made -= len(m.steps[m.now])
		check(t, b, m, &d)
	}
	for m.now < len(m.texts)-1 {
		b.Redo()
		m.made += len(m.steps[m.now])
		m.now++
		check(t, b, m, &d)
	}
}

// P2.2: many edits at once, of a long text; Pieces keeps its bounds there and back.
func TestManyEdits(t *testing.T) {
	s := strings.Repeat("ab", api.MaxText/2)
	b := newBuffer(t, s)
	var l []api.Edit
	for i := 0; i < len(s); i += 4 {
		l = append(l, api.Edit{From: i, To: i + 1, With: "xy"}, api.Edit{From: i + 2, To: i + 3})
	}
	want, _ := edits.Apply(s, l...)
	if e := b.Apply(l...); e != api.OK || b.Text() != want || b.Pieces() > 1+2*len(l) {
		t.Errorf("Apply: %d, %d pieces", e, b.Pieces())
	}
	if b.Undo(); b.Text() != s || b.Pieces() != 1 {
		t.Errorf("Undo: %d pieces", b.Pieces())
	}
	if b.Redo(); b.Text() != want {
		t.Error("Redo: another text")
	}
}
