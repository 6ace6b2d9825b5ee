package buf

import (
	"slices"
	"strings"

	"frisket/api"
)

// mostPieces keeps it quick to go through all pieces: of more of them one is made.
const mostPieces = 256

// appendPiece puts a piece behind others, if it isn't empty, without room to spare: what is appended to it can't reach the bytes behind it, which other pieces may show.
func appendPiece(l [][]byte, p []byte) [][]byte {
	if len(p) == 0 {
		return l
	}
	return append(l, p[:len(p):len(p)])
}

// cutter goes through pieces, from the first byte on.
type cutter struct {
	rest [][]byte
	off  int // how many bytes of the first piece are cut off
}

// cut hands the next n bytes on, piece by piece, or as many as there are.
func (c *cutter) cut(n int, hand func(p []byte)) {
	for n > 0 && len(c.rest) > 0 {
		p := c.rest[0][c.off:]
		k := min(n, len(p))
		hand(p[:k:k])
		n -= k
		c.off += k
		if k == len(p) {
			c.rest, c.off = c.rest[1:], 0
		}
	}
}

// gather is the next n bytes, as a text.
func (c *cutter) gather(n int) string {
	var text strings.Builder
	text.Grow(max(0, n))
	c.cut(n, func(p []byte) { text.Write(p) })
	return text.String()
}

// swap does edits that are right, and answers those that take them back, one for each.
func (b *Buffer) swap(l []api.Edit) []api.Edit {
	c := cutter{rest: b.pieces}
	out := make([][]byte, 0, len(b.pieces)+2*len(l))
	size := 0
	putDown := func(p []byte) {
		out = appendPiece(out, p)
		size += len(p)
	}
	back := make([]api.Edit, 0, len(l))
	at := 0
	for _, e := range l {
		c.cut(e.From-at, putDown)
		from := size
		putDown([]byte(e.With))
		back = append(back, api.Edit{From: from, To: size, With: c.gather(e.To - e.From)})
		at = e.To
	}
	c.cut(b.size-at, putDown)
	b.pieces, b.size = out, size
	return back
}

// tidy makes one piece of all, if there are more than the steps account for, or than are gone through quickly.
func (b *Buffer) tidy() {
	if len(b.pieces) > min(mostPieces, 1+2*b.made) {
		b.pieces = appendPiece(nil, slices.Concat(b.pieces...))
	}
}
