package buf

import (
	"slices"

	"frisket/api"
)

// stack is things of one type, of which the last one is taken first.
type stack[T any] struct {
	items []T
}

func (s *stack[T]) size() int {
	return len(s.items)
}

func (s *stack[T]) push(x T) {
	s.items = append(s.items, x)
}

// pop takes the last one off.
func (s *stack[T]) pop() (T, bool) {
	var none T
	n := len(s.items) - 1
	if n < 0 {
		return none, false
	}
	x := s.items[n]
	s.items[n] = none // so that the stack doesn't keep what isn't on it any more
	s.items = s.items[:n]
	return x, true
}

// forget takes the first ones away, till there are at most so many.
func (s *stack[T]) forget(most int) {
	if n := len(s.items) - most; n > 0 {
		s.items = slices.Delete(s.items, 0, n)
	}
}

func (s *stack[T]) drop() {
	s.items = nil
}

// history is the steps ahead of a text and behind it. A step is kept as edits of the text that it will meet: a done one as those that undo it, an undone one as those that do it again, so that each text is kept in one way alone.
type history struct {
	past, future stack[[]api.Edit]
	made         int // how many edits the steps have that are done, forgotten ones among them
}

// done takes down a new step, by what undoes it.
func (h *history) done(back []api.Edit) {
	h.redone(back)
	h.past.forget(api.MaxHistory)
	h.future.drop()
}

// undone takes down that the last step was undone, by what does it again.
func (h *history) undone(again []api.Edit) {
	h.future.push(again)
	h.made -= len(again)
}

// redone takes down that a step was done again, by what undoes it.
func (h *history) redone(back []api.Edit) {
	h.past.push(back)
	h.made += len(back)
}
