package items

import "math/bits"

// bringer brings to items those of the places that they have ahead. It brings classes to places first, and makes items of them at last: they are many, and so each is made once.
type bringer struct {
	*Maker
	met     map[Item]struct{}
	follows map[int]follow // what may stand behind the places that were met
	more    []int          // the places behind which more may stand than their productions were told
}

// put puts an item in that is handed in, if there can be such.
func (b *bringer) put(i Item) {
	if !b.has(i) {
		return
	}
	b.met[i] = struct{}{}
	if s, ok := b.spot(i); ok {
		b.bring(s, 1<<i.Then)
	}
}

// bring brings to the place ahead of a spot what may stand behind it there; then is what may stand behind the spot's production.
func (b *bringer) bring(s spot, then follow) {
	if !s.ahead.Place {
		return
	}
	f := b.follows[s.ahead.N] | s.first
	if s.through {
		f |= then
	}
	if f != b.follows[s.ahead.N] {
		b.follows[s.ahead.N] = f
		b.more = append(b.more, s.ahead.N)
	}
}

// finish brings all that there is, and makes items of it.
func (b *bringer) finish() {
	for len(b.more) > 0 {
		place := b.more[len(b.more)-1]
		b.more = b.more[:len(b.more)-1]
		for _, p := range b.Of(place) {
			if s, ok := b.spot(Item{Prod: p}); ok {
				b.bring(s, b.follows[place])
			}
		}
	}
	for place, f := range b.follows {
		for _, p := range b.Of(place) {
			b.begin(p, f)
		}
	}
}

// begin puts a production's items in that have nothing behind.
func (b *bringer) begin(p int, f follow) {
	for ; f != 0; f &= f - 1 {
		b.met[Item{p, 0, bits.TrailingZeros64(uint64(f))}] = struct{}{}
	}
}
