package merge

import (
	"fmt"
	"math"
	"slices"
	"strings"
	"testing"

	"barograph/api"
	"barograph/block"
)

const (
	// last and first are the greatest and the least time.
	last  = math.MaxInt64
	first = math.MinInt64
	// most is the greatest number of a record.
	most = 99999999
	// full is as many signs as a value may have.
	full = "0123456789012345678901234567890123456789012345678901234567890123"
	// long is as many signs as a name may have, but for the last one.
	long = "abcdefghijklmnopqrstuvwxyz_abcd"
)

// flat is all texts of pairs in a row: labels stand as these rows do.
func flat(l []api.Pair) []string {
	var texts []string
	for _, p := range l {
		texts = append(texts, p.Name, p.Value)
	}
	return texts
}

// plainMatcher tells whether a matcher is right, of those that the tests make.
func plainMatcher(m api.Match) bool {
	return m.Kind >= 1 && m.Kind <= 4 && strings.Trim(m.Name, "abcdefghijklmnopqrstuvwxyz_") == "" && m.Name != "" && len(m.Name) <= 32 && len(m.Value) <= 64 && !strings.Contains(m.Value, "\n") && (m.Kind != 4 || m.Value == "")
}

// plainIs tells whether matchers hold of labels.
func plainIs(l []api.Match, labels []api.Pair) bool {
	if len(l) > 8 || slices.ContainsFunc(l, func(m api.Match) bool { return !plainMatcher(m) }) {
		return false
	}
	for _, m := range l {
		v := ""
		for _, p := range labels {
			if p.Name == m.Name {
				v = p.Value
			}
		}
		if holds := [4]bool{v == m.Value, v != m.Value, strings.HasPrefix(v, m.Value), v != ""}; !holds[m.Kind-1] {
			return false
		}
	}
	return true
}

// plainFollow is Follow by another way: each block is held against each one ahead, each point against each greatest time.
func plainFollow(l []block.Block) api.Errno {
	for _, b := range l {
		if e := block.Check(b); e != api.OK {
			return e
		}
	}
	number := 1
	for i, b := range l {
		if b.First != number {
			return api.ErrOrder
		}
		number = b.To + 1
		for _, ahead := range l[:i] {
			if plainOlder(ahead.Rows, b.Rows) {
				return api.ErrOrder
			}
		}
	}
	return api.OK
}

// plainOlder tells whether rows have a point that is not above its series' greatest time in the rows ahead.
func plainOlder(ahead, l []block.Row) bool {
	for _, s := range ahead {
		for _, r := range l {
			for _, p := range r.Points {
				if slices.Equal(s.Labels, r.Labels) && p.T <= s.Last {
					return true
				}
			}
		}
	}
	return false
}

// plainGone tells whether one of some deletes takes away what labels have at a time.
func plainGone(dels []api.Record, labels []api.Pair, time int64) bool {
	return slices.ContainsFunc(dels, func(d api.Record) bool {
		return !(time < d.From) && !(time > d.To) && plainIs(d.Matches, labels)
	})
}

// plainSeries is all series of blocks, in the order of their labels, with what the blocks have left of them, and deletes behind all blocks.
func plainSeries(l []block.Block, dels []api.Record) []api.Series {
	found := make(map[string]api.Series)
	for i, b := range l {
		for _, r := range b.Rows {
			key := fmt.Sprintf("%q", flat(r.Labels))
			s := found[key]
			s.Labels = r.Labels
			for _, p := range r.Points {
				gone := plainGone(dels, r.Labels, p.T)
				for _, behind := range l[i+1:] {
					gone = gone || plainGone(behind.Dels, r.Labels, p.T)
				}
				if !gone {
					s.Points = append(s.Points, p)
				}
			}
			found[key] = s
		}
	}
	var all []api.Series
	for _, s := range found {
		all = append(all, s)
	}
	slices.SortFunc(all, func(a, b api.Series) int { return slices.Compare(flat(a.Labels), flat(b.Labels)) })
	return all
}

// within is the points from one time to another one.
func within(l []api.Point, from, to int64) []api.Point {
	return slices.DeleteFunc(slices.Clone(l), func(p api.Point) bool { return p.T < from || p.T > to })
}

// plainQuery is Query by another way: each point is held against all deletes behind it.
func plainQuery(l []block.Block, dels []api.Record, ask []api.Match, from, to int64) []api.Series {
	var told []api.Series
	for _, s := range plainSeries(l, dels) {
		s.Points = within(s.Points, from, to)
		if len(s.Points) > 0 && plainIs(ask, s.Labels) {
			told = append(told, s)
		}
	}
	return told
}

// plainLast is labels' greatest time in blocks.
func plainLast(l []block.Block, labels []api.Pair) int64 {
	var times []int64
	for _, b := range l {
		for _, r := range b.Rows {
			if slices.Equal(r.Labels, labels) {
				times = append(times, r.Last)
			}
		}
	}
	return slices.Max(times)
}

// plainLasts is Lasts by another way.
func plainLasts(l []block.Block) []block.Row {
	var rows []block.Row
	for _, s := range plainSeries(l, nil) {
		rows = append(rows, block.Row{Labels: s.Labels, Last: plainLast(l, s.Labels)})
	}
	return rows
}

// plainJoin is Join by another way, of blocks that follow one another.
func plainJoin(l []block.Block, mark int64) block.Block {
	b := block.Block{First: 1, To: l[len(l)-1].To, Rows: plainLasts(l)}
	for i, s := range plainSeries(l, nil) {
		b.Rows[i].Points = within(s.Points, mark, last)
	}
	return b
}

// mixed is a number that looks like any, the same one for the same i.
func mixed(i int) uint64 {
	x := (uint64(i) + 1) * 0x9E3779B97F4A7C15
	x = (x ^ x>>30) * 0xBF58476D1CE4E5B9
	x = (x ^ x>>27) * 0x94D049BB133111EB
	return x ^ x>>31
}

// labels is pairs of names and values that stand by turns.
func labels(texts ...string) []api.Pair {
	var l []api.Pair
	for i := 0; i+1 < len(texts); i += 2 {
		l = append(l, api.Pair{Name: texts[i], Value: texts[i+1]})
	}
	return l
}

// numbered is labels of a pair that tells a number; they stand as the numbers do.
func numbered(n int) []api.Pair { return labels("n", fmt.Sprintf("%04d", n)) }

// fullLabels is as many labels as there may be, with the longest names and values.
func fullLabels() []api.Pair {
	var l []api.Pair
	for _, sign := range "_abcdxyz" {
		l = append(l, api.Pair{Name: long + string(sign), Value: full})
	}
	return l
}

// inOrder is labels that stand in their order. (That of their bytes is another one.) Some have the same names and values, run together.
func inOrder() [][]api.Pair {
	return [][]api.Pair{
		labels("_", "9"),
		labels("a", " "),
		labels("a", "1"),
		labels("a", "1", "b", "1", "c", "1"),
		labels("a", "1", "b", "2"),
		labels("a", "1", "c", "1"),
		labels("a", "1 b 2"),
		labels("a", "10"),
		labels("a", "1b2"),
		labels("a", "2"),
		labels("a", "bc"),
		labels("a", "~", "b", "1"),
		labels("aa", "0"),
		labels("ab", "c"),
		fullLabels(),
		labels("b", "1"),
		labels("b", "1", "z", "1"),
		labels("z", "1"),
	}
}

// of is a sample of labels, whose value tells its time.
func of(l []api.Pair, t int64) api.Sample { return api.Sample{Labels: l, T: t, V: uint64(t) * 3} }

// commit is a commit of samples.
func commit(l ...api.Sample) api.Record { return api.Record{Kind: api.RCommit, Samples: l} }

// cut is a delete of what matchers ask for.
func cut(from, to int64, l ...api.Match) api.Record {
	return api.Record{Kind: api.RDelete, Matches: l, From: from, To: to}
}

func equal(name, value string) api.Match {
	return api.Match{Kind: api.MEqual, Name: name, Value: value}
}
func not(name, value string) api.Match { return api.Match{Kind: api.MNot, Name: name, Value: value} }
func prefix(name, value string) api.Match {
	return api.Match{Kind: api.MPrefix, Name: name, Value: value}
}
func some(name string) api.Match { return api.Match{Kind: api.MAny, Name: name} }

// list is matchers in a row; so are records, blocks, and rows of a block.
func list(l ...api.Match) []api.Match       { return l }
func records(l ...api.Record) []api.Record  { return l }
func blocks(l ...block.Block) []block.Block { return l }
func rowsOf(l ...block.Row) []block.Row     { return l }

// chain gives blocks numbers by which they follow one another, of one record each.
func chain(l ...block.Block) []block.Block {
	l = slices.Clone(l)
	for i := range l {
		l[i].First, l[i].To = i+1, i+1
	}
	return l
}

// points is points of times, whose values tell them.
func points(times ...int64) []api.Point {
	var l []api.Point
	for _, t := range times {
		l = append(l, api.Point{T: t, V: uint64(t) * 3})
	}
	return l
}

// row is a row of points of times, with the greatest one of them.
func row(l []api.Pair, times ...int64) block.Row {
	r := block.Row{Labels: l, Points: points(times...)}
	if len(times) > 0 {
		r.Last = times[len(times)-1]
	}
	return r
}

// told is a series as Query tells it.
func told(l []api.Pair, times ...int64) api.Series {
	return api.Series{Labels: l, Points: points(times...)}
}

// with is a block of rows, its numbers not given yet.
func with(l ...block.Row) block.Block { return block.Block{Rows: l} }

// cutting is a block of deletes, and of rows behind them, its numbers not given yet.
func cutting(dels []api.Record, l ...block.Row) block.Block { return block.Block{Rows: l, Dels: dels} }

// sameRow tells whether two rows are the same.
func sameRow(a, b block.Row) bool {
	return a.Last == b.Last && slices.Equal(a.Labels, b.Labels) && slices.Equal(a.Points, b.Points)
}

// sameRows tells whether two lists of rows are the same.
func sameRows(a, b []block.Row) bool { return slices.EqualFunc(a, b, sameRow) }

// sameBlock tells whether two blocks without deletes are the same.
func sameBlock(a, b block.Block) bool {
	return a.First == b.First && a.To == b.To && sameRows(a.Rows, b.Rows) && len(a.Dels)+len(b.Dels) == 0
}

// sameSeries tells whether two lists of series are the same.
func sameSeries(a, b []api.Series) bool {
	return slices.EqualFunc(a, b, func(a, b api.Series) bool {
		return slices.Equal(a.Labels, b.Labels) && slices.Equal(a.Points, b.Points)
	})
}

// brief is blocks, or what else, as they are told beside a fault.
func brief(x any) string { return fmt.Sprintf("%.600s", fmt.Sprint(x)) }

// wantFollow asks Follow, and Join for the same error and for nothing beside it.
func wantFollow(t *testing.T, l []block.Block, want api.Errno) {
	t.Helper()
	if e := plainFollow(l); e != want {
		t.Errorf("%s: %v by another way; want %v", brief(l), e, want)
	}
	if e := Follow(l); e != want {
		t.Errorf("Follow of %s: %v; want %v", brief(l), e, want)
	}
	if want == api.OK && len(l) == 0 {
		want = api.ErrRange
	}
	b, e := Join(l, first)
	if e != want || e != api.OK && !sameBlock(b, block.Block{}) {
		t.Errorf("Join of %s: %s, %v; want %v", brief(l), brief(b), e, want)
	}
}

// wantQuery asks Query of blocks that follow one another for some series.
func wantQuery(t *testing.T, l []block.Block, dels []api.Record, ask []api.Match, from, to int64, want []api.Series) {
	t.Helper()
	if e := Follow(l); e != api.OK {
		t.Fatalf("%s do not follow one another: %v", brief(l), e)
	}
	if got := plainQuery(l, dels, ask, from, to); !sameSeries(got, want) {
		t.Errorf("%s, dels %s, ask %v, from %d to %d: %s by another way; want %s", brief(l), brief(dels), ask, from, to, brief(got), brief(want))
	}
	if got := Query(l, dels, ask, from, to); !sameSeries(got, want) {
		t.Errorf("Query of %s, dels %s, ask %v, from %d to %d: %s; want %s", brief(l), brief(dels), ask, from, to, brief(got), brief(want))
	}
}

// wantAll asks Query of blocks for all that they have.
func wantAll(t *testing.T, l []block.Block, want ...api.Series) {
	t.Helper()
	wantQuery(t, l, nil, nil, first, last, want)
}

// wantJoin asks Join and Lasts for rows; the block must be right, and follow alone.
func wantJoin(t *testing.T, l []block.Block, mark int64, want ...block.Row) {
	t.Helper()
	whole := block.Block{First: 1, To: l[len(l)-1].To, Rows: want}
	if got := plainJoin(l, mark); !sameBlock(got, whole) {
		t.Errorf("%s, mark %d: %s by another way; want %s", brief(l), mark, brief(got), brief(whole))
	}
	got, e := Join(l, mark)
	if e != api.OK || !sameBlock(got, whole) {
		t.Errorf("Join of %s, mark %d: %s, %v; want %s", brief(l), mark, brief(got), e, brief(whole))
	}
	if e := Follow(blocks(got)); e != api.OK {
		t.Errorf("Follow of %s, which Join told: %v", brief(got), e)
	}
	lasts := slices.Clone(want)
	for i := range lasts {
		lasts[i].Points = nil
	}
	if rows := Lasts(l); !sameRows(rows, lasts) {
		t.Errorf("Lasts of %s: %s; want %s", brief(l), brief(rows), brief(lasts))
	}
}
