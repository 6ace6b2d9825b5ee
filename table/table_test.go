package table_test

import (
	"fmt"
	"math"
	"reflect"
	"slices"
	"strings"
	"testing"

	"frisket/api"
	"frisket/gram"
	"frisket/items"
	"frisket/table"
)

// nest is s of a s b or nothing: a is class 0, b 1, the end 2; the productions are 0 and 1.
const nest = "token a a\ntoken b b\nsort s\nrule s 0 A = a s:0 b\nrule s 0 E =\n"

// pairs is i alone, and two e side by side: i is class 0, the end 1; the productions are 0 and 1.
const pairs = "token i i\nsort e\nrule e 0 I = i\nrule e 0 Two = e:0 e:0\n"

// turned has classes and places ahead in another order than that of its productions: 0 is y b, 1 is x a, 2 of y (place 1) is b, 3 of x (place 2) is a.
const turned = "token a a\ntoken b b\nsort s\nsort x\nsort y\nrule s 0 S = y:0 b\nrule s 0 T = x:0 a\nrule y 0 Y = b\nrule x 0 X = a\n"

// loops has all that may clash: behind s (productions 0 to 2 are s, s, s a, 3 is a).
const loops = "token a a\nsort s\nrule s 0 X = s:0\nrule s 0 Y = s:0\nrule s 0 Z = s:0 a\nrule s 0 E = a\n"

// twins is s of c c, c of x c or y: x is class 0, y 1, the end 2; the productions are 0 to 2, the places 0 and 1.
const twins = "token x x\ntoken y y\nsort s\nsort c\nrule s 0 S = c:0 c:0\nrule c 0 X = x c:0\nrule c 0 Y = y\n"

// shift, reduce and accept are what is done; fail is nothing.
func shift(n int) table.Act  { return table.Act{Kind: table.Shift, N: n} }
func reduce(n int) table.Act { return table.Act{Kind: table.Reduce, N: n} }

var accept, fail = table.Act{Kind: table.Accept}, table.Act{}

// item is an item.
func item(prod, dot, then int) items.Item {
	return items.Item{Prod: prod, Dot: dot, Then: then}
}

// all is some items.
func all(l ...items.Item) []items.Item {
	return l
}

// acts is some acts.
func acts(l ...table.Act) []table.Act {
	return l
}

// makerOf is the maker of a grammar's text.
func makerOf(t testing.TB, text string) *items.Maker {
	t.Helper()
	g, n, err := gram.Parse(text)
	if err != api.OK {
		t.Fatalf("Parse(%.200q): %d, %d", text, n, err)
	}
	m, n, err := items.New(g)
	if err != api.OK {
		t.Fatalf("items.New(%.200q): %d, %d", text, n, err)
	}
	return m
}

// tableOf is the table of a grammar's text.
func tableOf(t testing.TB, text string) *table.Table {
	t.Helper()
	x, err := table.New(makerOf(t, text))
	if x == nil || err != api.OK {
		t.Fatalf("New(%.200q): %v, %d", text, x, err)
	}
	return x
}

// row is a state: what is done at each class, and at the end, then where places lead.
func row(x *table.Table, n int) string {
	var l []string
	for class := range x.End() + 1 {
		a := x.Do(n, class)
		l = append(l, []string{".", "s", "r", "a"}[a.Kind])
		if a.Kind == table.Shift || a.Kind == table.Reduce {
			l[class] += fmt.Sprint(a.N)
		}
	}
	for place := range x.Places() {
		if to, ok := x.Go(n, place); ok {
			l = append(l, fmt.Sprintf("%d:%d", place, to))
		}
	}
	return strings.Join(l, " ")
}

// P15.1: of no maker there is no table.
func TestNew(t *testing.T) {
	if x, err := table.New(nil); x != nil || err != api.ErrArg {
		t.Errorf("New(nil): %v, %d", x, err)
	}
}

// P15.1: all states, in the order in which they are met, what is done in them, and where they lead.
func TestStates(t *testing.T) {
	for _, c := range []struct {
		text string
		want []string
	}{
		{"token a a\nsort s\nrule s 0 A = a\n", []string{"s1 . 0:2", ". r0", ". a"}},
		{"sort s\nrule s 0 E =\n", []string{"r0 0:1", "a"}},
		{nest, []string{"s1 . r1 0:2", "s3 r1 . 0:4", ". . a", "s3 r1 . 0:5", ". s6 .", ". s7 .", ". . r0", ". r0 ."}},
		{pairs, []string{"s1 . 0:2", "r0 r0", "s1 a 0:3", "s1 r1 0:3"}},
		{turned, []string{"s1 s2 . 0:3 1:4 2:5", "r3 . .", ". r2 .", ". . a", ". s6 .", "s7 . .", ". . r0", ". . r1"}},
		{loops, []string{"s1 . 0:2", "r3 r3", "s3 r0", "r2 r2"}},
		{twins, []string{"s1 s2 . 0:3 1:4", "s1 s2 . 1:5", "r2 r2 .", ". . a", "s6 s7 . 1:8", "r1 r1 .", "s6 s7 . 1:9", ". . r2", ". . r0", ". . r1"}},
	} {
		x := tableOf(t, c.text)
		var got []string
		for n := range x.States() {
			got = append(got, row(x, n))
		}
		if !slices.Equal(got, c.want) {
			t.Errorf("of %q: %q, not %q", c.text, got, c.want)
		}
	}
}

// P15.1: kinds have their numbers; what has no number has 0.
func TestKinds(t *testing.T) {
	if table.Fail != 0 || table.Shift != 1 || table.Reduce != 2 || table.Accept != 3 {
		t.Errorf("kinds: %d, %d, %d, %d", table.Fail, table.Shift, table.Reduce, table.Accept)
	}
	x := tableOf(t, nest)
	for _, c := range []struct {
		n, class int
		want     table.Act
	}{
		{0, 0, shift(1)}, {0, 1, fail}, {0, 2, reduce(1)}, {2, 2, accept}, {2, 0, fail}, {2, 1, fail}, {6, 2, reduce(0)}, {6, 1, fail},
	} {
		if got := x.Do(c.n, c.class); got != c.want {
			t.Errorf("Do(%d, %d): %v", c.n, c.class, got)
		}
	}
}

// P15.1: a state's items.
func TestItems(t *testing.T) {
	x := tableOf(t, nest)
	for n, want := range [][]items.Item{
		all(item(-1, 0, 2), item(0, 0, 2), item(1, 0, 2)),
		all(item(0, 0, 1), item(0, 1, 2), item(1, 0, 1)),
		all(item(-1, 1, 2)),
		all(item(0, 0, 1), item(0, 1, 1), item(1, 0, 1)),
		all(item(0, 2, 2)),
		all(item(0, 2, 1)),
		all(item(0, 3, 2)),
		all(item(0, 3, 1)),
	} {
		if got := x.Items(n); !slices.Equal(got, want) {
			t.Errorf("Items(%d): %v", n, got)
		}
	}
	x = tableOf(t, pairs)
	for n, want := range [][]items.Item{
		all(item(-1, 0, 1), item(0, 0, 0), item(0, 0, 1), item(1, 0, 0), item(1, 0, 1)),
		all(item(0, 1, 0), item(0, 1, 1)),
		all(item(-1, 1, 1), item(0, 0, 0), item(0, 0, 1), item(1, 0, 0), item(1, 0, 1), item(1, 1, 0), item(1, 1, 1)),
		all(item(0, 0, 0), item(0, 0, 1), item(1, 0, 0), item(1, 0, 1), item(1, 1, 0), item(1, 1, 1), item(1, 2, 0), item(1, 2, 1)),
	} {
		if got := x.Items(n); !slices.Equal(got, want) {
			t.Errorf("Items(%d): %v", n, got)
		}
	}
}

// P15.1: of no such state, class or place nothing is told.
func TestNone(t *testing.T) {
	x := tableOf(t, nest)
	for _, n := range []int{-1, 8, 9, math.MinInt, math.MaxInt} {
		if to, ok := x.Go(n, 0); x.Do(n, 0) != fail || x.Do(n, 2) != fail || to != 0 || ok || len(x.Items(n)) != 0 || len(x.Expected(n)) != 0 {
			t.Errorf("of state %d: %v, %d, %v, %v, %v", n, x.Do(n, 0), to, ok, x.Items(n), x.Expected(n))
		}
	}
	for _, class := range []int{-1, 3, math.MinInt, math.MaxInt} {
		if got := x.Do(0, class); got != fail {
			t.Errorf("at class %d: %v", class, got)
		}
	}
	for _, place := range []int{-1, 1, math.MinInt, math.MaxInt} {
		if to, ok := x.Go(0, place); to != 0 || ok {
			t.Errorf("by place %d: %d, %v", place, to, ok)
		}
	}
	if to, ok := x.Go(4, 0); to != 0 || ok {
		t.Errorf("by a place that isn't ahead: %d, %v", to, ok)
	}
}

// P15.1: clashes, by states and classes, with all that might be done; of that the first is done.
func TestClashes(t *testing.T) {
	for _, c := range []struct {
		text string
		want []table.Clash
	}{
		{nest, nil},
		{turned, nil},
		{pairs, []table.Clash{{3, 0, acts(shift(1), reduce(1))}}},
		{loops, []table.Clash{{2, 0, acts(shift(3), reduce(0), reduce(1))}, {2, 1, acts(reduce(0), reduce(1), accept)}}},
		{"sort s\nrule s 0 X = s:0\nrule s 0 E =\n", []table.Clash{{1, 0, acts(reduce(0), accept)}}},
		{"token a a\nsort s\nsort x\nrule s 0 S = x:0 a\nrule s 0 T = a\nrule x 0 X =\nrule x 0 Y =\n", []table.Clash{{0, 0, acts(shift(1), reduce(2), reduce(3))}}},
		{"token b b\ntoken a a\nsort s\nsort x\nrule s 0 S = x:0 a\nrule s 0 T = x:0 b\nrule x 0 X =\nrule x 0 Y =\n", []table.Clash{{0, 0, acts(reduce(2), reduce(3))}, {0, 1, acts(reduce(2), reduce(3))}}},
	} {
		x := tableOf(t, c.text)
		got := x.Clashes()
		if len(got) != len(c.want) || len(got) > 0 && !reflect.DeepEqual(got, c.want) {
			t.Errorf("Clashes of %q: %v, not %v", c.text, got, c.want)
		}
		for _, clash := range got {
			if done := x.Do(clash.State, clash.Class); done != clash.Acts[0] {
				t.Errorf("of %q: %v is done, of %v", c.text, done, clash)
			}
		}
	}
}

// P15.1: more productions than one digit tells: they rise by their numbers.
func TestClashOfMany(t *testing.T) {
	text := "sort s\n"
	var want []table.Act
	for n := range api.MaxRules {
		text += fmt.Sprintf("rule s 0 R%d =\n", n)
		want = append(want, reduce(n))
	}
	x := tableOf(t, text)
	if got := x.Clashes(); len(got) != 1 || !slices.Equal(got[0].Acts, want) {
		t.Errorf("Clashes: %v", got)
	}
}

// P15.1: the classes, and the end, at which a state doesn't fail.
func TestExpected(t *testing.T) {
	for _, c := range []struct {
		text string
		want [][]int
	}{
		{nest, [][]int{{0, 2}, {0, 1}, {2}, {0, 1}, {1}, {1}, {2}, {1}}},
		{pairs, [][]int{{0}, {0, 1}, {0, 1}, {0, 1}}},
		{turned, [][]int{{0, 1}, {0}, {1}, {2}, {1}, {0}, {2}, {2}}},
	} {
		x := tableOf(t, c.text)
		for n, want := range c.want {
			if got := x.Expected(n); !slices.Equal(got, want) {
				t.Errorf("Expected(%d) of %q: %v, not %v", n, c.text, got, want)
			}
		}
	}
}

// P15.1: a table tells what its maker's sets tell.
func TestSets(t *testing.T) {
	m := makerOf(t, nest)
	x, _ := table.New(m)
	if x.Sets != m.Sets || x.End() != 2 || len(x.Productions()) != 2 {
		t.Errorf("End: %d, Productions: %v", x.End(), x.Productions())
	}
}

// deep is a grammar of 2000 states: in six places of s stands x, each time with another class behind, and so all its states are there six times: 6 * (3 + 330) + 2. With one class more there is one more.
func deep(more string) string {
	var text strings.Builder
	for n := range 30 {
		fmt.Fprintf(&text, "token t%d %s\n", n, strings.Repeat("a", n+1))
	}
	text.WriteString("sort s\nsort x\n" + more)
	for n := range 6 {
		fmt.Fprintf(&text, "rule s 0 S%d = t%d x:0 t%d\n", n, n, n)
	}
	for n := range 27 {
		fmt.Fprintf(&text, "rule x 0 X%d = t%d%s\n", n, n, strings.Repeat(" t29", 11))
	}
	text.WriteString("rule x 0 X27 = t27 t29 t29 t29 t29 t29\n")
	return text.String()
}

// P15.1: as many states as there may be, and one more.
func TestMost(t *testing.T) {
	x := tableOf(t, deep(""))
	if x.States() != api.MaxStates || len(x.Clashes()) != 0 {
		t.Fatalf("%d states, clashes: %v", x.States(), x.Clashes())
	}
	for n := range x.States() {
		if len(x.Items(n)) == 0 || len(x.Expected(n)) == 0 {
			t.Fatalf("state %d: %v, %v", n, x.Items(n), x.Expected(n))
		}
	}
	if x, err := table.New(makerOf(t, deep("rule s 0 More = t28\n"))); x != nil || err != api.ErrLong {
		t.Errorf("of one more: %v, %d", x, err)
	}
}

// P15.1: a nil table tells nothing; nor do others panic, nor do they of makers that no maker made.
func TestNil(t *testing.T) {
	var none *table.Table
	if to, ok := none.Go(0, 0); none.States() != 0 || none.Do(0, 0) != fail || to != 0 || ok || none.Items(0) != nil || none.Clashes() != nil || none.Expected(0) != nil {
		t.Error("a nil table tells something")
	}
	few, many := makerOf(t, nest), makerOf(t, deep(""))
	s := few.Sets
	few.Sets, many.Sets = many.Sets, s
	l := []*table.Table{{}, {Sets: s}}
	for _, m := range []*items.Maker{{}, {Sets: s}, few, many} {
		if x, err := table.New(m); err == api.OK {
			l = append(l, x)
		}
	}
	for _, x := range l {
		x.Clashes()
		for n := -1; n <= x.States(); n++ {
			x.Items(n)
			x.Expected(n)
			for y := -1; y < 40; y++ {
				x.Do(n, y)
				x.Go(n, y)
			}
		}
	}
}

// What is answered is new memory: what is done to it, no later call tells.
func TestNewMemory(t *testing.T) {
	x := tableOf(t, loops)
	want := fmt.Sprint(x.Clashes(), x.Items(2), x.Expected(2))
	l := x.Clashes()
	for _, c := range l {
		clear(append(c.Acts, fail))
		clear(c.Acts)
	}
	clear(l)
	clear(x.Items(2))
	clear(x.Items(0))
	clear(x.Expected(2))
	if got := fmt.Sprint(x.Clashes(), x.Items(2), x.Expected(2)); got != want {
		t.Errorf("changed: %s, not %s", got, want)
	}
}
