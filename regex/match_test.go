package regex_test

import (
	"math/rand"
	"strings"
	"testing"

	"frisket/regex"
)

// doubled is a node with itself beside it, again and again.
func doubled(n *regex.Node, times int, join func(...*regex.Node) *regex.Node) *regex.Node {
	for range times {
		n = join(n, n)
	}
	return n
}

// starred is nodes, one behind the other, any number of times.
func starred(l ...*regex.Node) *regex.Node {
	return regex.Star(regex.Cat(l...))
}

// muchOfNothing means nothing, but has so many nodes that nodes which stand in several places are gone through once for all of them.
func muchOfNothing() *regex.Node {
	return doubled(regex.Set([4]uint64{}), 15, regex.Or)
}

// parsed is an expression that is written.
func parsed(t testing.TB, s string) *regex.Node {
	t.Helper()
	n, _, _ := regex.Parse(s)
	if n == nil {
		t.Fatalf("Parse(%q): nil", s)
	}
	return n
}

// P5.2: of nil nothing is meant.
func TestMatchesNil(t *testing.T) {
	if regex.Matches(nil, "") || regex.Matches(nil, "a") || regex.Nullable(nil) {
		t.Error("nil means something")
	}
}

// P5.2: every byte of a set, and no other one.
func TestMatchesBytes(t *testing.T) {
	set := [4]uint64{1 << 63, 1, 1<<63 | 1, 1}
	n := regex.Set(set)
	for c := range 256 {
		if got := regex.Matches(n, string([]byte{byte(c)})); got != (set[c/64]>>(c%64)&1 == 1) {
			t.Errorf("byte %d: %v", c, got)
		}
	}
	if regex.Matches(n, "") || regex.Matches(n, "@@") {
		t.Error("a set means one byte")
	}
}

// P5.2: expressions of very many nodes, of which most are the same ones.
func TestMatchesDoubles(t *testing.T) {
	nothing := muchOfNothing()
	all := texts("ab", 5)
	for _, l := range expressions(4) {
		for _, n := range l {
			checkTexts(t, regex.Or(n, nothing), n, all)
			checkTexts(t, doubled(n, 15, regex.Or), n, all)
			checkTexts(t, regex.Star(doubled(n, 15, regex.Or)), regex.Star(n), all)
			checkTexts(t, regex.Cat(doubled(n, 15, regex.Or), n), regex.Cat(n, n), all)
		}
	}
}

// P5.2: how often, of what stands in twos again and again.
func TestMatchesPowers(t *testing.T) {
	for times := range 8 {
		count := 1 << times
		for _, beside := range []*regex.Node{regex.Or(), muchOfNothing()} {
			one := regex.Or(beside, doubled(parsed(t, "a"), times, regex.Cat))
			some := regex.Or(beside, doubled(parsed(t, "a?"), times, regex.Cat))
			more := regex.Or(doubled(parsed(t, "aa|aaa"), times, regex.Cat), beside)
			for length := range 3*count + 2 {
				s := strings.Repeat("a", length)
				if got := regex.Matches(one, s); got != (length == count) {
					t.Errorf("%d of a, %d times: %v", length, count, got)
				}
				if got := regex.Matches(some, s); got != (length <= count) {
					t.Errorf("%d of a?, %d times: %v", length, count, got)
				}
				if got := regex.Matches(more, s); got != (length >= 2*count && length <= 3*count) {
					t.Errorf("%d of aa|aaa, %d times: %v", length, count, got)
				}
			}
		}
	}
	one := doubled(parsed(t, "[ab]"), 18, regex.Cat)
	s := strings.Repeat("ab", 1<<17)
	if !regex.Matches(one, s) || regex.Matches(one, s[1:]) || regex.Matches(one, s+"a") {
		t.Error("of very many nodes")
	}
}

// Every call ends: more places than can be counted, and short texts.
func TestMatchesUncounted(t *testing.T) {
	for _, c := range []struct {
		written string
		join    func(...*regex.Node) *regex.Node
		s       string
		want    bool
	}{
		{"a", regex.Or, "a", true},
		{"a", regex.Or, "aa", false},
		{"a|bb", regex.Or, "bb", true},
		{"a", regex.Cat, "aaaaaaaa", false},
		{"a?", regex.Cat, "aaaaaaaa", true},
		{"a?", regex.Cat, "aaaaaaab", false},
		{"a*", regex.Cat, "aaaaaaaa", true},
		{"(ab|)*", regex.Cat, "abababab", true},
		{"(ab|)*", regex.Cat, "abababa", false},
		{"ab", starred, "abababab", true},
		{"ab", starred, "abababa", false},
		{"", regex.Or, "", true},
		{"", regex.Cat, "", true},
		{"", regex.Cat, "a", false},
	} {
		n := doubled(parsed(t, c.written), 90, c.join)
		if got := regex.Matches(n, c.s); got != c.want {
			t.Errorf("%s doubled, of %q: %v", c.written, c.s, got)
		}
		if got := regex.Matches(regex.Star(regex.Star(n)), c.s); c.want && !got {
			t.Errorf("%s doubled, any number of times, of %q: %v", c.written, c.s, got)
		}
	}
}

// P5.2: nodes that stand here and there, with and without more nodes beside them that mean nothing.
func TestMatchesMixed(t *testing.T) {
	random := rand.New(rand.NewSource(5))
	nothing := muchOfNothing()
	all := texts("ab", 5)
	for range 3000 {
		l := []*regex.Node{regex.Empty(), regex.Set(setOf("a")), regex.Set(setOf("b")), regex.Set(setOf("ab"))}
		for range 5 {
			a, b := l[random.Intn(len(l))], l[random.Intn(len(l))]
			l = append(l, []*regex.Node{regex.Cat(a, b), regex.Or(a, b), regex.Star(a)}[random.Intn(3)])
		}
		n := l[len(l)-1]
		checkTexts(t, n, n, all)
		checkTexts(t, regex.Or(nothing, n), n, all)
	}
}

// Every call ends: nodes that stand deep in one another, and long texts.
func TestMatchesDeepAndLong(t *testing.T) {
	const many = 1 << 18
	a := regex.Set(setOf("a"))
	deep := a
	for range many {
		deep = regex.Star(deep)
	}
	if !regex.Matches(deep, "aaa") || regex.Matches(deep, "aab") || regex.Size(deep) != many+1 {
		t.Error("stars")
	}
	nothing := make([]*regex.Node, many)
	letters := make([]*regex.Node, many)
	for i := range letters {
		nothing[i], letters[i] = regex.Empty(), a
	}
	if n := regex.Cat(nothing...); !regex.Matches(n, "") || regex.Matches(n, "a") || !regex.Nullable(n) {
		t.Error("a row of nothing")
	}
	long := strings.Repeat("a", many)
	if n := regex.Cat(letters...); !regex.Matches(n, long) || regex.Matches(n, long[1:]) {
		t.Error("a row of letters")
	}
	if n := regex.Or(letters...); !regex.Matches(n, "a") || regex.Matches(n, "aa") {
		t.Error("many alternatives")
	}
	for _, c := range []struct {
		written string
		want    bool
	}{
		{"[a-z]+", true}, {"(a*)*", true}, {"(a*)*b", false}, {"([a-z]*)+", true}, {"a*a*a*a*", true}, {"(a|aa)+", true}, {"(aa)*", true}, {"(aaa)*", false}, {"(a([ab]*c|))*", true},
	} {
		if got := regex.Matches(parsed(t, c.written), long); got != c.want {
			t.Errorf("%s: %v", c.written, got)
		}
	}
}
