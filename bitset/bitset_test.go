package bitset_test

import (
	"math/rand"
	"slices"
	"testing"

	"frisket/bitset"
)

func list(s bitset.Set) []int {
	return slices.Collect(s.All())
}

func TestOf(t *testing.T) {
	for _, c := range []struct {
		room    int
		l, want []int
	}{
		{0, nil, nil},
		{1, []int{0}, []int{0}},
		{64, []int{63, 0}, []int{0, 63}},
		{65, []int{64, 64, 63}, []int{63, 64}},
		{200, []int{199, 128, 127, 5}, []int{5, 127, 128, 199}},
	} {
		s := bitset.Of(c.room, c.l...)
		if got := list(s); !slices.Equal(got, c.want) {
			t.Errorf("Of(%d, %v): %v", c.room, c.l, got)
		}
		if got := s.None(); got != (len(c.want) == 0) {
			t.Errorf("None of %v: %v", c.want, got)
		}
		for n := range c.room {
			if got := s.Has(n); got != slices.Contains(c.want, n) {
				t.Errorf("Has(%d) of %v: %v", n, c.want, got)
			}
		}
	}
}

// Two sets, put together in every way, against lists.
func TestTwo(t *testing.T) {
	random := rand.New(rand.NewSource(6))
	for range 500 {
		room := 1 + random.Intn(200)
		s, u := bitset.New(room), bitset.New(room)
		for range random.Intn(room) {
			s.Add(random.Intn(room))
			u.Add(random.Intn(room))
		}
		var both, either []int
		for n := range room {
			if s.Has(n) && u.Has(n) {
				both = append(both, n)
			}
			if s.Has(n) || u.Has(n) {
				either = append(either, n)
			}
		}
		if got := s.Meet(u); !slices.Equal(list(got), both) {
			t.Fatalf("Meet of %v, %v: %v", list(s), list(u), list(got))
		}
		if same := s.Text() == u.Text(); same != slices.Equal(list(s), list(u)) {
			t.Fatalf("texts of %v, %v: the same is %v", list(s), list(u), same)
		}
		s.Join(u)
		if !slices.Equal(list(s), either) {
			t.Fatalf("Join: %v, not %v", list(s), either)
		}
	}
}

func TestAllStops(t *testing.T) {
	s := bitset.Of(130, 3, 70, 129)
	for n := range s.All() {
		if n != 3 {
			t.Fatalf("the first one: %d", n)
		}
		break
	}
}
