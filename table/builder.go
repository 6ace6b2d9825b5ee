package table

import (
	"cmp"
	"maps"
	"slices"
	"strconv"

	"frisket/items"
	"frisket/sets"
)

// state is what is known of a state.
type state struct {
	seeds []items.Item // those whose closure the state is: all items would be too many to keep
	acts  map[int]Act  // what is done at classes, and at the end
	leads map[int]int  // where places lead
}

// state is what is known of a state; nothing of one that isn't there.
func (t *Table) state(n int) state {
	if t == nil || n < 0 || n >= len(t.states) {
		return state{}
	}
	return t.states[n]
}

// builder builds a table.
type builder struct {
	*Table
	numbers map[string]int // of states, by the texts of their seeds
}

// number is the number of the state that seeds bring, a new one, if it wasn't met yet. A closure brings only items that have nothing behind, and seeds have something behind (but those of the start, to which nothing leads): so two states are one just if their seeds are the same.
func (b *builder) number(seeds []items.Item) int {
	text := tell(seeds)
	n, met := b.numbers[text]
	if !met {
		n = len(b.states)
		b.numbers[text] = n
		b.states = append(b.states, state{seeds: seeds})
	}
	return n
}

// tell is items as a text.
func tell(l []items.Item) string {
	var text []byte
	for _, i := range l {
		for _, n := range []int{i.Prod, i.Dot, i.Then} {
			text = append(strconv.AppendInt(text, int64(n), 36), ' ')
		}
	}
	return string(text)
}

// fill finds what may be done in a state, and where it leads.
func (b *builder) fill(n int) {
	acts, leads := map[int][]Act{}, map[int]int{}
	seeds := map[sets.Symbol][]items.Item{}
	for _, i := range b.Items(n) {
		if y, ok := b.maker.Ahead(i); ok {
			seeds[y] = append(seeds[y], items.Item{Prod: i.Prod, Dot: i.Dot + 1, Then: i.Then})
		} else {
			acts[i.Then] = append(acts[i.Then], finish(i))
		}
	}
	for _, y := range slices.SortedFunc(maps.Keys(seeds), compareSymbols) {
		to := b.number(seeds[y])
		if y.Place {
			leads[y.N] = to
		} else {
			acts[y.N] = append(acts[y.N], Act{Shift, to})
		}
	}
	b.states[n].acts, b.states[n].leads = b.choose(n, acts), leads
}

// finish is what is done behind an item.
func finish(i items.Item) Act {
	if i.Prod < 0 {
		return Act{Kind: Accept}
	}
	return Act{Reduce, i.Prod}
}

// choose is what is done in a state, of all that may be; where that is more than one thing, it is a clash.
func (b *builder) choose(n int, acts map[int][]Act) map[int]Act {
	done := map[int]Act{}
	for _, class := range slices.Sorted(maps.Keys(acts)) {
		l := acts[class]
		slices.SortFunc(l, compareActs)
		done[class] = l[0]
		if len(l) > 1 {
			b.clashes = append(b.clashes, Clash{n, class, l})
		}
	}
	return done
}

// compareActs is the order of acts: the first of them is done.
func compareActs(a, b Act) int {
	return cmp.Or(cmp.Compare(a.Kind, b.Kind), cmp.Compare(a.N, b.N))
}

// compareSymbols is the order in which states go on: by classes, then by places.
func compareSymbols(a, b sets.Symbol) int {
	if a.Place == b.Place {
		return cmp.Compare(a.N, b.N)
	}
	if b.Place {
		return -1
	}
	return 1
}
