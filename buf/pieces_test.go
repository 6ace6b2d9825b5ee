package buf

import (
	"testing"

	"frisket/api"
)

// Pieces have no room to spare, and none of them is empty.
func TestPiecesAreCutOff(t *testing.T) {
	b, _ := New("abcdefgh")
	for i := range 600 {
		if i%5 == 4 {
			b.Undo()
		} else {
			b.Apply(api.Edit{From: i % 3, To: i%3 + 1, With: "xyz"[:i%4]}, api.Edit{From: i%3 + 2, To: i%3 + 2, With: "wv"})
		}
		for _, p := range b.pieces {
			if len(p) == 0 || cap(p) != len(p) {
				t.Fatalf("a piece of %d bytes with room for %d", len(p), cap(p))
			}
		}
		if len(b.pieces) > mostPieces {
			t.Fatalf("%d pieces", len(b.pieces))
		}
	}
}

// What was popped or forgotten isn't held any more.
func TestStackLetsGo(t *testing.T) {
	var s stack[*int]
	for i := range 5 {
		s.push(&i)
	}
	all := s.items
	if x, ok := s.pop(); !ok || *x != 4 {
		t.Errorf("pop: %v, %v", x, ok)
	}
	s.forget(2)
	if s.size() != 2 || *s.items[0] != 2 || *s.items[1] != 3 {
		t.Errorf("forget: %d left", s.size())
	}
	for i, x := range all[2:] {
		if x != nil {
			t.Errorf("item %d is still held", i+2)
		}
	}
	s.drop()
	if _, ok := s.pop(); ok {
		t.Error("pop of none")
	}
}
