package postings

import (
	"slices"
	"sync"

	"barograph/api"
	"barograph/match"
)

// Index is where which pairs stand.
type Index struct {
	// rows are copies: the lists are made from them later, and what was handed in may have changed by then.
	rows [][]api.Pair
	once sync.Once
	// lists has under each pair the numbers of the rows that have it, rising. It is asked by rowsOf alone, which has it made.
	lists map[api.Pair][]int
}

// New is an index of rows of labels.
func New(rows [][]api.Pair) *Index {
	x := &Index{}
	for _, row := range rows {
		x.rows = append(x.rows, slices.Clone(row))
	}
	return x
}

// makeLists makes the lists of all pairs' rows.
func (x *Index) makeLists() {
	x.lists = make(map[api.Pair][]int)
	for n, row := range x.rows {
		for _, p := range row {
			// A row that has a pair several times stands in its list once.
			if l := x.lists[p]; len(l) == 0 || l[len(l)-1] != n {
				x.lists[p] = append(l, n)
			}
		}
	}
}

// rowsOf is the rows that have a pair, as they stand in the index.
func (x *Index) rowsOf(p api.Pair) []int {
	x.once.Do(x.makeLists)
	return x.lists[p]
}

// Of is the rows that have a pair.
func (x *Index) Of(p api.Pair) []int { return slices.Clone(x.rowsOf(p)) }

// Find is the rows that are asked for.
func (x *Index) Find(l []api.Match) []int {
	// Of matchers that are wrong there may be any number: none of them is looked up.
	if match.Check(l) != api.OK {
		return nil
	}
	var found []int
	for _, n := range x.near(l) {
		// That a row has a pair is not enough: its first pair with that name may be another one.
		if match.Is(l, x.rows[n]) {
			found = append(found, n)
		}
	}
	return found
}

// near is the rows among which those that are asked for are, rising: all that have each pair which must be there.
func (x *Index) near(l []api.Match) []int {
	var lists [][]int
	for _, m := range l {
		// An empty value is asked for of rows without the name, too, and these stand in no list.
		if m.Kind == api.MEqual && m.Value != "" {
			lists = append(lists, x.rowsOf(api.Pair{Name: m.Name, Value: m.Value}))
		}
	}
	if len(lists) == 0 {
		return x.all()
	}
	near := lists[0]
	for _, other := range lists[1:] {
		near = And(near, other)
	}
	return near
}

// all is the numbers of all rows.
func (x *Index) all() []int {
	var l []int
	for n := range x.rows {
		l = append(l, n)
	}
	return l
}
