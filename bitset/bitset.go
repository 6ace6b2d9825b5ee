// Package bitset is sets of small numbers, as bits: of a machine's positions there may be so many that sets of them are best joined and met word by word.
package bitset

import (
	"iter"
	"math/bits"
)

// Set is some numbers, from 0 on, of those that it has room for. Sets that are put together have the same room.
type Set []uint64

// New is a set of no numbers, with room for those below one.
func New(room int) Set {
	return make(Set, (room+63)/64)
}

// Of is a set of numbers.
func Of(room int, l ...int) Set {
	s := New(room)
	for _, n := range l {
		s.Add(n)
	}
	return s
}

// Add puts a number in.
func (s Set) Add(n int) {
	s[n/64] |= 1 << (n % 64)
}

// Has tells whether a number is in.
func (s Set) Has(n int) bool {
	return s[n/64]>>(n%64)&1 == 1
}

// None tells whether no number is in.
func (s Set) None() bool {
	for _, word := range s {
		if word != 0 {
			return false
		}
	}
	return true
}

// Join puts all numbers of another set in.
func (s Set) Join(t Set) {
	for i, word := range t {
		s[i] |= word
	}
}

// Meet is a new set, of the numbers that are in both.
func (s Set) Meet(t Set) Set {
	both := make(Set, len(s))
	for i, word := range t {
		both[i] = s[i] & word
	}
	return both
}

// All yields the numbers, rising.
func (s Set) All() iter.Seq[int] {
	return func(yield func(int) bool) {
		for i, word := range s {
			for ; word != 0; word &= word - 1 {
				if !yield(i*64 + bits.TrailingZeros64(word)) {
					return
				}
			}
		}
	}
}

// Text tells the set as a text, so that it may be a map's key: sets of one room have the same text just if they are the same.
func (s Set) Text() string {
	text := make([]byte, 0, len(s)*8)
	for _, word := range s {
		for range 8 {
			text = append(text, byte(word))
			word >>= 8
		}
	}
	return string(text)
}
