package lines

import (
	"slices"
	"testing"
)

// Who ranges over new lines may stop at any of them.
func TestNewLinesStops(t *testing.T) {
	var seen []int
	for at := range newLines("a\n\nb\n") {
		seen = append(seen, at)
		if len(seen) == 2 {
			break
		}
	}
	if !slices.Equal(seen, []int{2, 3}) {
		t.Errorf("%v", seen)
	}
}
