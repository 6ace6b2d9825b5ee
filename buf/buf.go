// Package buf is layer 2: a text that is edited.
package buf

import (
	"frisket/api"
	"frisket/edits"
)

// Buffer is a text that is edited.
type Buffer struct {
	history
	pieces [][]byte // none of them empty, none of them ever written to
	size   int      // how many bytes they have in all
}

// New is a buffer of a text.
func New(s string) (*Buffer, api.Errno) {
	if len(s) > api.MaxText {
		return nil, api.ErrLong
	}
	return &Buffer{pieces: appendPiece(nil, []byte(s)), size: len(s)}, api.OK
}

// Len is how many bytes there are.
func (b *Buffer) Len() int {
	if b == nil {
		return 0
	}
	return b.size
}

// Past is how many steps can be undone.
func (b *Buffer) Past() int {
	if b == nil {
		return 0
	}
	return b.past.size()
}

// Future is how many steps can be redone.
func (b *Buffer) Future() int {
	if b == nil {
		return 0
	}
	return b.future.size()
}

// Pieces is of how many pieces the text is.
func (b *Buffer) Pieces() int {
	if b == nil {
		return 0
	}
	return max(1, len(b.pieces))
}

// Text is the text.
func (b *Buffer) Text() string {
	if b == nil {
		return ""
	}
	c := cutter{rest: b.pieces}
	return c.gather(b.size)
}

// Slice is some bytes.
func (b *Buffer) Slice(from, to int) (string, api.Errno) {
	if !edits.Right(b.Len(), api.Edit{From: from, To: to}) {
		return "", api.ErrRange
	}
	if b == nil {
		return "", api.OK
	}
	c := cutter{rest: b.pieces}
	c.cut(from, func([]byte) {})
	return c.gather(to - from), api.OK
}

// At is a byte.
func (b *Buffer) At(i int) (byte, bool) {
	if b == nil || i < 0 {
		return 0, false
	}
	for _, p := range b.pieces {
		if i < len(p) {
			return p[i], true
		}
		i -= len(p)
	}
	return 0, false
}

// Apply does edits, as a step.
func (b *Buffer) Apply(l ...api.Edit) api.Errno {
	if b == nil {
		return api.ErrArg
	}
	if !edits.Right(b.size, l...) {
		return api.ErrRange
	}
	if edits.Move(b.size, l...) > api.MaxText { // where the end comes to stand
		return api.ErrLong
	}
	b.done(b.swap(l))
	b.tidy()
	return api.OK
}

// Splice puts bytes in the place of others, as a step.
func (b *Buffer) Splice(from, to int, with string) api.Errno {
	return b.Apply(api.Edit{From: from, To: to, With: with})
}

// Undo undoes the last step.
func (b *Buffer) Undo() ([]api.Edit, bool) {
	if b == nil {
		return nil, false
	}
	l, ok := b.past.pop()
	if !ok {
		return nil, false
	}
	b.undone(b.swap(l))
	b.tidy()
	return l, true
}

// Redo does the step again that was undone last.
func (b *Buffer) Redo() ([]api.Edit, bool) {
	if b == nil {
		return nil, false
	}
	l, ok := b.future.pop()
	if !ok {
		return nil, false
	}
	b.redone(b.swap(l))
	b.tidy()
	return l, true
}
