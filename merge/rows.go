package merge

import (
	"slices"
	"sort"

	"barograph/api"
	"barograph/block"
	"barograph/label"
	"barograph/match"
)

// rows has one row for each series, under its labels' bytes. It shares no memory with the rows that were put to it.
type rows map[string]*block.Row

// keyOf is what a series' row stands under.
func keyOf(labels []api.Pair) string {
	// Rows of blocks that follow one another have labels that are right, so they have bytes.
	key, _ := label.Encode(labels)
	return key
}

// put puts a row's greatest time and points, as many as are handed in, to those of its series.
func (m rows) put(r block.Row, points []api.Point) {
	key := keyOf(r.Labels)
	s := m[key]
	if s == nil {
		s = &block.Row{Labels: slices.Clone(r.Labels), Last: r.Last}
		m[key] = s
	}
	// A row that has no points may have a lower one than a block ahead.
	s.Last = max(s.Last, r.Last)
	s.Points = append(s.Points, points...)
}

// putLasts puts rows' greatest times, without their points, to those of their series.
func (m rows) putLasts(l []block.Row) {
	for _, r := range l {
		m.put(r, nil)
	}
}

// areOlder tells whether the greatest times are all below the points of their series that come next, in rows that are right.
func (m rows) areOlder(l []block.Row) bool {
	for _, r := range l {
		s := m[keyOf(r.Labels)]
		// Points rise, so the first one says it for all.
		if s != nil && len(r.Points) > 0 && r.Points[0].T <= s.Last {
			return false
		}
	}
	return true
}

// remove takes away the points that deletes ask for.
func (m rows) remove(dels []api.Record) {
	for _, d := range dels {
		for _, s := range m {
			begin, end := span(s.Points, d.From, d.To)
			if begin < end && match.Is(d.Matches, s.Labels) {
				s.Points = slices.Delete(s.Points, begin, end)
			}
		}
	}
}

// inOrder is the rows in the order of their labels. (Their keys' order is another one: how many pairs there are stands first in their bytes.)
func (m rows) inOrder() []block.Row {
	var l []block.Row
	for _, s := range m {
		l = append(l, *s)
	}
	slices.SortFunc(l, func(a, b block.Row) int { return label.Compare(a.Labels, b.Labels) })
	return l
}

// span is where the points from one time to another one stand among points that rise.
func span(l []api.Point, from, to int64) (int, int) {
	begin := sort.Search(len(l), func(i int) bool { return l[i].T >= from })
	// Behind its begin alone, so that a span whose times are the wrong way round is empty.
	size := sort.Search(len(l)-begin, func(i int) bool { return l[begin+i].T > to })
	return begin, begin + size
}

// between is the points from one time to another one, as they stand among points that rise.
func between(l []api.Point, from, to int64) []api.Point {
	begin, end := span(l, from, to)
	return l[begin:end]
}
