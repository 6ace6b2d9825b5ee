package useful

import "frisket/sets"

// greatest is what all greater sizes count as: they grow by powers.
const greatest = 1000000

// course is how a place ends soonest, if it does: by which symbols, and its size then.
type course struct {
	ends    bool
	size    int
	symbols []sets.Symbol
}

// measure finds the places' sizes: till no production makes a place smaller. So the places in a place's course had their own, which they keep, ahead of it: none leads back to it.
func (u *Useful) measure() {
	productions := u.Productions()
	for more := true; more; {
		more = false
		for _, p := range productions {
			size, ends := u.sum(p.Symbols)
			if c := u.courses[p.Place]; ends && (!c.ends || size < c.size) {
				u.courses[p.Place] = course{true, size, p.Symbols}
				more = true
			}
		}
	}
}

// sum is the size of symbols together; false, if one of them is void.
func (u *Useful) sum(l []sets.Symbol) (int, bool) {
	sum := 0
	for _, y := range l {
		size, ends := 1, true
		if y.Place {
			size, ends = u.Size(y.N)
		}
		if !ends {
			return 0, false
		}
		sum = min(sum+size, greatest)
	}
	return sum, true
}

// yield puts a place's shortest text behind a text. Places of no size are passed by: there may be more of them than can be gone through.
func (u *Useful) yield(text []int, place int) []int {
	for _, y := range u.courses[place].symbols {
		if !y.Place {
			text = append(text, y.N)
		} else if u.courses[y.N].size > 0 {
			text = u.yield(text, y.N)
		}
	}
	return text
}

// used is the rules and the classes of productions that aren't void.
func (u *Useful) used() (rules, classes map[int]struct{}) {
	rules, classes = map[int]struct{}{}, map[int]struct{}{}
	for _, p := range u.Productions() {
		if _, ends := u.sum(p.Symbols); !ends {
			continue
		}
		rules[p.Rule] = struct{}{}
		for _, y := range p.Symbols {
			if !y.Place {
				classes[y.N] = struct{}{}
			}
		}
	}
	return rules, classes
}
