package edits

import (
	"strings"

	"frisket/api"
)

// appendLean puts what is left of an edit of s behind l, without the bytes that are the same at both ends of what it takes away and what it puts: nothing, if it is bare then.
func appendLean(l []api.Edit, s string, e api.Edit) []api.Edit {
	gone, put := s[e.From:e.To], e.With
	n := sameBytes(min(len(gone), len(put)), func(i int) bool {
		return gone[i] == put[i]
	})
	gone, put = gone[n:], put[n:]
	m := sameBytes(min(len(gone), len(put)), func(i int) bool {
		return gone[len(gone)-1-i] == put[len(put)-1-i]
	})
	put = put[:len(put)-m]
	if len(gone) == m && put == "" {
		return l
	}
	return append(l, api.Edit{From: e.From + n, To: e.To - m, With: strings.Clone(put)})
}

// sameBytes counts, up to most, how many of the first looks find the same.
func sameBytes(most int, look func(i int) bool) int {
	n := 0
	for n < most && look(n) {
		n++
	}
	return n
}
