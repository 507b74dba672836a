package head

import (
	"slices"
	"sort"

	"barograph/api"
	"barograph/label"
)

// series is labels with points.
type series struct {
	labels []api.Pair
	// points have times that rise.
	points []api.Point
	// last is the greatest time that a point ever had, be it there still or not.
	last int64
}

// newSeries is a series without points. Its first point says what its greatest time is.
func newSeries(labels []api.Pair) *series { return &series{labels: slices.Clone(labels)} }

// compare tells how two series stand.
func (s *series) compare(other *series) int { return label.Compare(s.labels, other.labels) }

// put puts a point behind the others.
func (s *series) put(p api.Point) {
	s.points = append(s.points, p)
	s.last = p.T
}

// span is where the points from one time to another one stand.
func (s *series) span(from, to int64) (int, int) {
	begin := sort.Search(len(s.points), func(i int) bool { return s.points[i].T >= from })
	// Behind its begin alone, so that a span whose times are the wrong way round is empty.
	size := sort.Search(len(s.points)-begin, func(i int) bool { return s.points[begin+i].T > to })
	return begin, begin + size
}

// between is the points from one time to another one, as they stand in the series.
func (s *series) between(from, to int64) []api.Point {
	begin, end := s.span(from, to)
	return s.points[begin:end]
}

// remove takes the points from one time to another one away.
func (s *series) remove(from, to int64) {
	begin, end := s.span(from, to)
	s.points = slices.Delete(s.points, begin, end)
}

// copy is a series of its own that is the same.
func (s *series) copy() *series {
	return &series{labels: slices.Clone(s.labels), points: slices.Clone(s.points), last: s.last}
}
