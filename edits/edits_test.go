package edits_test

import (
	"slices"
	"strings"
	"testing"

	"frisket/api"
	"frisket/edits"
)

type list = []api.Edit

// texts is all texts of a and b of at most so many bytes.
func texts(most int) []string {
	all := []string{""}
	for i := 0; i < len(all) && len(all[i]) < most; i++ {
		all = append(all, all[i]+"a", all[i]+"b")
	}
	return all
}

// lists is all right lists of at most so many edits of n bytes, from a place on.
func lists(from, n, most int, withs []string) []list {
	all := []list{{}}
	if most == 0 {
		return all
	}
	for f := from; f <= n; f++ {
		for t := f; t <= n; t++ {
			for _, w := range withs {
				for _, rest := range lists(t, n, most-1, withs) {
					all = append(all, append(list{{From: f, To: t, With: w}}, rest...))
				}
			}
		}
	}
	return all
}

// applied does edits one by one, from the last one on.
func applied(s string, l list) string {
	for _, e := range slices.Backward(l) {
		s = s[:e.From] + e.With + s[e.To:]
	}
	return s
}

func isLean(s string, e api.Edit) bool {
	gone, put := s[e.From:e.To], e.With
	if gone == "" || put == "" {
		return gone != put
	}
	return gone[0] != put[0] && gone[len(gone)-1] != put[len(put)-1]
}

// wrongLists aren't right of a text of 3 bytes.
func wrongLists() []list {
	return []list{
		{{From: -1, To: 0}},
		{{From: -1, To: -1}},
		{{From: 2, To: 1}},
		{{From: 0, To: 4}},
		{{From: 4, To: 4}},
		{{From: 0, To: 2}, {From: 1, To: 3}},
		{{From: 2, To: 3}, {From: 0, To: 1}},
		{{From: 1, To: 2}, {From: 3, To: 2}},
		{{From: 0, To: 1}, {From: 2, To: 9}},
		{{From: 3, To: 3}, {From: 2, To: 2}},
	}
}

// P1.1: which edits are right.
func TestRight(t *testing.T) {
	right := []struct {
		n int
		l list
	}{
		{0, nil},
		{0, list{{With: "x"}}},
		{0, list{{}, {}, {With: "x"}}},
		{3, list{{From: 0, To: 3}}},
		{3, list{{From: 3, To: 3, With: "x"}}},
		{3, list{{From: 0, To: 1}, {From: 1, To: 1}, {From: 1, To: 3}}},
		{-1, nil},
	}
	for _, x := range right {
		if !edits.Right(x.n, x.l...) {
			t.Errorf("Right(%d, %v) is false", x.n, x.l)
		}
	}
	for _, l := range wrongLists() {
		if edits.Right(3, l...) {
			t.Errorf("Right(3, %v) is true", l)
		}
	}
	if edits.Right(0, api.Edit{To: 1}) || edits.Right(-1, api.Edit{}) {
		t.Error("Right: an edit behind the end")
	}
}

// P1.1, P1.2: of edits that aren't right ErrRange, and nothing beside it.
func TestWrongEdits(t *testing.T) {
	for _, l := range wrongLists() {
		if s, e := edits.Apply("abc", l...); s != "" || e != api.ErrRange {
			t.Errorf("Apply(%v): %q, %d", l, s, e)
		}
		if r, e := edits.Turn("abc", l...); len(r) != 0 || e != api.ErrRange {
			t.Errorf("Turn(%v): %v, %d", l, r, e)
		}
		if r, e := edits.Lean("abc", l...); len(r) != 0 || e != api.ErrRange {
			t.Errorf("Lean(%v): %v, %d", l, r, e)
		}
		if r, e := edits.Compose("abc", l, nil); len(r) != 0 || e != api.ErrRange {
			t.Errorf("Compose(%v, nil): %v, %d", l, r, e)
		}
		if r, e := edits.Compose("abcd", list{{From: 1, To: 2}}, l); len(r) != 0 || e != api.ErrRange {
			t.Errorf("Compose(_, %v): %v, %d", l, r, e)
		}
	}
}

// P1.2: the second list is right of what the first one makes, not of the first text.
func TestComposeRange(t *testing.T) {
	grow, cut := list{{From: 1, To: 1, With: "xyz"}}, list{{From: 0, To: 2}}
	end := list{{From: 6, To: 6, With: "!"}}
	if l, e := edits.Compose("abc", grow, end); e != api.OK || applied("abc", l) != "axyzbc!" {
		t.Errorf("behind a longer text: %v, %d", l, e)
	}
	if _, e := edits.Compose("abc", cut, list{{From: 2, To: 2}}); e != api.ErrRange {
		t.Errorf("behind a shorter text: %d", e)
	}
}

func TestExample(t *testing.T) {
	e := api.Edit{From: 1, To: 2, With: "xy"}
	if s, n := edits.Apply("abc", e); s != "axyc" || n != api.OK {
		t.Errorf("Apply: %q, %d", s, n)
	}
	if l, n := edits.Turn("abc", e); n != api.OK || !slices.Equal(l, list{{From: 1, To: 3, With: "b"}}) {
		t.Errorf("Turn: %v, %d", l, n)
	}
}

// P1.1, P1.3: all short lists of edits, applied and turned.
func TestApplyAndTurn(t *testing.T) {
	for _, s := range []string{"", "a", "\xff\x00", "abc", "aba"} {
		for _, l := range lists(0, len(s), 3, []string{"", "a", "xy"}) {
			made, e := edits.Apply(s, l...)
			if want := applied(s, l); made != want || e != api.OK {
				t.Fatalf("Apply(%q, %v): %q, %d; want %q", s, l, made, e, want)
			}
			back, e := edits.Turn(s, l...)
			if e != api.OK || len(back) != len(l) || !edits.Right(len(made), back...) || applied(made, back) != s {
				t.Fatalf("Turn(%q, %v): %v, %d", s, l, back, e)
			}
			if again, _ := edits.Turn(made, back...); !slices.Equal(again, l) {
				t.Fatalf("Turn, turned (%q, %v): %v", s, l, again)
			}
		}
	}
}

// leftOf is what is left of an edit: the beginning is cut first, byte by byte.
func leftOf(s string, e api.Edit) api.Edit {
	for e.From < e.To && e.With != "" && s[e.From] == e.With[0] {
		e.From, e.With = e.From+1, e.With[1:]
	}
	for e.From < e.To && e.With != "" && s[e.To-1] == e.With[len(e.With)-1] {
		e.To, e.With = e.To-1, e.With[:len(e.With)-1]
	}
	return e
}

// P1.1: what is left of each edit, and no bare ones.
func TestLean(t *testing.T) {
	for _, s := range texts(3) {
		for _, l := range lists(0, len(s), 2, texts(3)) {
			var want list
			for _, e := range l {
				if e = leftOf(s, e); e.From < e.To || e.With != "" {
					want = append(want, e)
				}
			}
			got, e := edits.Lean(s, l...)
			if e != api.OK || !slices.Equal(got, want) {
				t.Fatalf("Lean(%q, %v): %v, %d; want %v", s, l, got, e, want)
			}
		}
	}
}

// The beginning comes first: of aa that becomes a the last byte goes.
func TestLeanBeginsFirst(t *testing.T) {
	if l, _ := edits.Lean("xaay", api.Edit{From: 1, To: 3, With: "a"}); !slices.Equal(l, list{{From: 2, To: 3}}) {
		t.Errorf("Lean: %v", l)
	}
	if l := edits.Between("a", "aa"); !slices.Equal(l, list{{From: 1, To: 1, With: "a"}}) {
		t.Errorf("Between: %v", l)
	}
}

// P1.1: one lean edit makes any text of any other one.
func TestBetween(t *testing.T) {
	for _, a := range texts(5) {
		for _, b := range texts(5) {
			l := edits.Between(a, b)
			if a == b {
				if len(l) != 0 {
					t.Fatalf("Between(%q, %q): %v", a, b, l)
				}
				continue
			}
			whole := leftOf(a, api.Edit{To: len(a), With: b})
			if !slices.Equal(l, list{whole}) || applied(a, l) != b || !isLean(a, l[0]) {
				t.Fatalf("Between(%q, %q): %v", a, b, l)
			}
		}
	}
}

// P1.2: what is composed does what both do, and is right and lean.
func TestCompose(t *testing.T) {
	withs := []string{"", "a", "ba"}
	for _, s := range []string{"", "a", "ab", "bba"} {
		for _, a := range lists(0, len(s), 2, withs) {
			mid := applied(s, a)
			for _, b := range lists(0, len(mid), 2, withs[:2]) {
				l, e := edits.Compose(s, a, b)
				if e != api.OK || !edits.Right(len(s), l...) || applied(s, l) != applied(mid, b) {
					t.Fatalf("Compose(%q, %v, %v): %v, %d", s, a, b, l, e)
				}
				for _, x := range l {
					if !isLean(s, x) {
						t.Fatalf("Compose(%q, %v, %v): %v isn't lean", s, a, b, x)
					}
				}
			}
		}
	}
}

// What neither list touches isn't taken away and put again.
func TestComposeKeeps(t *testing.T) {
	l, e := edits.Compose("abcdef", list{{From: 1, To: 2, With: "XYZ"}}, list{{From: 6, To: 7, With: "W"}})
	want := list{{From: 1, To: 2, With: "XYZ"}, {From: 4, To: 5, With: "W"}}
	if e != api.OK || !slices.Equal(l, want) {
		t.Errorf("Compose: %v, %d", l, e)
	}
	undone, e := edits.Compose("abc", list{{From: 1, To: 1, With: "x"}}, list{{From: 1, To: 2}})
	if e != api.OK || len(undone) != 0 {
		t.Errorf("Compose with what undoes it: %v, %d", undone, e)
	}
}

// whereStands puts the text ahead of a place together, and counts it.
func whereStands(s string, at int, l list) int {
	var ahead list
	for _, e := range l {
		if e.From <= at && at < e.To {
			return len(applied(s[:e.From], ahead))
		}
		if e.To <= at {
			ahead = append(ahead, e)
		}
	}
	return len(applied(s[:at], ahead))
}

// P1.2: each place of a text, of all short lists.
func TestMove(t *testing.T) {
	s := "abcd"
	for _, l := range lists(0, len(s), 2, []string{"", "x", "xyz"}) {
		for at := range len(s) + 1 {
			if got, want := edits.Move(at, l...), whereStands(s, at, l); got != want {
				t.Fatalf("Move(%d, %v): %d, want %d", at, l, got, want)
			}
		}
	}
}

func TestMoveEdges(t *testing.T) {
	put := api.Edit{From: 2, To: 2, With: "xy"}
	cut := api.Edit{From: 4, To: 6, With: "z"}
	for at, want := range []int{0, 1, 4, 5, 6, 6, 7, 8} {
		if got := edits.Move(at, put, cut); got != want {
			t.Errorf("Move(%d): %d, want %d", at, got, want)
		}
	}
	if edits.Move(5) != 5 || edits.Move(-3, put) != -3 {
		t.Error("Move: a place that no edit is ahead of")
	}
}

// P1.2: bytes that go, and bytes that come.
func TestCost(t *testing.T) {
	if n := edits.Cost(); n != 0 {
		t.Errorf("Cost of none: %d", n)
	}
	if n := edits.Cost(api.Edit{From: 1, To: 4, With: "xy"}, api.Edit{From: 5, To: 5}, api.Edit{From: 5, To: 5, With: "z"}); n != 6 {
		t.Errorf("Cost: %d", n)
	}
	if n := edits.Cost(api.Edit{From: 3, To: 1, With: "x"}); n != 1 {
		t.Errorf("Cost of an edit that takes nothing away: %d", n)
	}
}

// No call panics, whatever it is given.
func TestAnyEdits(t *testing.T) {
	places := []int{-1 << 63, -1, 0, 1, 2, 1<<63 - 1}
	for _, from := range places {
		for _, to := range places {
			e := api.Edit{From: from, To: to, With: "x"}
			for _, at := range places {
				edits.Right(at, e, e)
				edits.Move(at, e, e)
			}
			edits.Cost(e, e)
			edits.Apply("ab", e)
			edits.Turn("ab", e)
			edits.Lean("ab", e)
			edits.Compose("ab", list{e}, list{e})
		}
	}
}

// Rule 4: what is handed in stays as it is, and so does the room behind it; answers are new.
func TestArgumentsStay(t *testing.T) {
	room := list{{From: 0, To: 1, With: "b"}, {From: 2, To: 3, With: "cc"}, {From: 9, To: 7, With: "room"}}
	l, before := room[:2], slices.Clone(room)
	edits.Apply("abc", l...)
	turned, _ := edits.Turn("abc", l...)
	lean, _ := edits.Lean("abc", l...)
	composed, _ := edits.Compose("abc", l, l)
	for _, x := range []list{turned, lean, composed} {
		for i := range x {
			x[i] = api.Edit{With: "other"}
		}
	}
	if !slices.Equal(room, before) {
		t.Errorf("changed: %v", room)
	}
}

// A long text, with many edits that touch one another.
func TestLong(t *testing.T) {
	s := strings.Repeat("ab", api.MaxText/2)
	var l list
	for i := 0; i < len(s); i += 2 {
		l = append(l, api.Edit{From: i, To: i + 1, With: "x"}, api.Edit{From: i + 1, To: i + 2})
	}
	made, e := edits.Apply(s, l...)
	if e != api.OK || made != strings.Repeat("x", len(s)/2) {
		t.Fatalf("Apply: %d bytes, %d", len(made), e)
	}
	back, _ := edits.Turn(s, l...)
	if again, _ := edits.Apply(made, back...); again != s {
		t.Error("Turn: not the text again")
	}
	if none, e := edits.Compose(s, l, back); e != api.OK || len(none) != 0 {
		t.Errorf("Compose: %d edits, %d", len(none), e)
	}
}
