package block

import (
	"fmt"
	"math"
	"regexp"
	"slices"
	"strings"
	"testing"

	"barograph/api"
	"barograph/head"
)

const (
	// last and first are the greatest and the least time.
	last  = math.MaxInt64
	first = math.MinInt64
	// most is the greatest number of a record.
	most = 99999999
	// full is as many signs as a value may have.
	full = "0123456789012345678901234567890123456789012345678901234567890123"
	// long is as many signs as a name may have, but for the last one.
	long = "abcdefghijklmnopqrstuvwxyz_abcd"
)

var (
	plainName  = regexp.MustCompile(`\A[_abcdefghijklmnopqrstuvwxyz]{1,32}\z`)
	plainValue = regexp.MustCompile(`\A[\x20-\x7E]{0,64}\z`)
)

// flat is all texts of pairs in a row: labels stand as these rows do.
func flat(l []api.Pair) []string {
	var texts []string
	for _, p := range l {
		texts = append(texts, p.Name, p.Value)
	}
	return texts
}

// plainLabels tells whether pairs are labels.
func plainLabels(l []api.Pair) bool {
	var names []string
	for _, p := range l {
		if !plainName.MatchString(p.Name) || !plainValue.MatchString(p.Value) || p.Value == "" {
			return false
		}
		names = append(names, p.Name)
	}
	sorted := slices.Compact(slices.Sorted(slices.Values(names)))
	return len(l) > 0 && len(l) < 9 && slices.Equal(names, sorted)
}

// plainMatcher tells whether a matcher is right.
func plainMatcher(m api.Match) bool {
	return slices.Contains([]int{1, 2, 3, 4}, m.Kind) && plainName.MatchString(m.Name) && plainValue.MatchString(m.Value) && (m.Kind != 4 || m.Value == "")
}

// plainDelete tells whether a record is a delete that is right.
func plainDelete(r api.Record) bool {
	wrong := slices.ContainsFunc(r.Matches, func(m api.Match) bool { return !plainMatcher(m) })
	return r.Kind == 2 && len(r.Samples) == 0 && len(r.Matches) < 9 && !wrong && !(r.To < r.From)
}

// plainRow tells what is wrong with a row behind other ones.
func plainRow(ahead []Row, r Row) api.Errno {
	var times []int64
	for _, p := range r.Points {
		times = append(times, p.T)
	}
	rising := slices.Compact(slices.Sorted(slices.Values(times)))
	switch {
	case !plainLabels(r.Labels):
		return api.ErrLabel
	case len(ahead) > 0 && slices.Compare(flat(ahead[len(ahead)-1].Labels), flat(r.Labels)) >= 0:
		return api.ErrOrder
	case !slices.Equal(times, rising), len(times) > 0 && slices.Max(times) > r.Last:
		return api.ErrOrder
	}
	return api.OK
}

// plainCheck is Check by another way.
func plainCheck(b Block) api.Errno {
	for _, n := range []int{b.First, b.To} {
		if s := fmt.Sprint(n); n <= 0 || len(s) > len("99999999") {
			return api.ErrRange
		}
	}
	if b.To < b.First {
		return api.ErrRange
	}
	for i, r := range b.Rows {
		if e := plainRow(b.Rows[:i], r); e != api.OK {
			return e
		}
	}
	if slices.ContainsFunc(b.Dels, func(r api.Record) bool { return !plainDelete(r) }) {
		return api.ErrKind
	}
	return api.OK
}

// plainIs tells whether matchers that are right hold of labels.
func plainIs(l []api.Match, labels []api.Pair) bool {
	for _, m := range l {
		v := ""
		for _, p := range labels {
			if p.Name == m.Name {
				v = p.Value
			}
		}
		if holds := [4]bool{v == m.Value, v != m.Value, strings.HasPrefix(v, m.Value), v != ""}; !holds[m.Kind-1] {
			return false
		}
	}
	return true
}

// plainErrno is the first error of a head's Apply of records, one by one.
func plainErrno(l []api.Record) api.Errno {
	h := head.New()
	for _, r := range l {
		if e := h.Apply(r); e != api.OK {
			return e
		}
	}
	return api.OK
}

// plainOf is Of by another way: each sample is held against all deletes behind it.
func plainOf(from int, l []api.Record) (Block, api.Errno) {
	if from < 1 || from > most || len(l) < 1 || len(l) > most-from+1 {
		return Block{}, api.ErrRange
	}
	if e := plainErrno(l); e != api.OK {
		return Block{}, e
	}
	b := Block{First: from, To: from + len(l) - 1}
	rows := make(map[string]Row)
	for i, r := range l {
		if r.Kind == api.RDelete {
			b.Dels = append(b.Dels, r)
		}
		for _, x := range r.Samples {
			row := rows[fmt.Sprintf("%q", flat(x.Labels))]
			gone := slices.ContainsFunc(l[i+1:], func(d api.Record) bool {
				return d.Kind == api.RDelete && plainIs(d.Matches, x.Labels) && x.T >= d.From && x.T <= d.To
			})
			if !gone {
				row.Points = append(row.Points, api.Point{T: x.T, V: x.V})
			}
			row.Labels, row.Last = x.Labels, x.T
			rows[fmt.Sprintf("%q", flat(x.Labels))] = row
		}
	}
	for _, row := range rows {
		b.Rows = append(b.Rows, row)
	}
	slices.SortFunc(b.Rows, func(a, b Row) int { return slices.Compare(flat(a.Labels), flat(b.Labels)) })
	return b, api.OK
}

// mixed is a number that looks like any, the same one for the same i.
func mixed(i int) uint64 {
	x := (uint64(i) + 1) * 0x9E3779B97F4A7C15
	x = (x ^ x>>30) * 0xBF58476D1CE4E5B9
	x = (x ^ x>>27) * 0x94D049BB133111EB
	return x ^ x>>31
}

// labels is pairs of names and values that stand by turns.
func labels(texts ...string) []api.Pair {
	var l []api.Pair
	for i := 0; i+1 < len(texts); i += 2 {
		l = append(l, api.Pair{Name: texts[i], Value: texts[i+1]})
	}
	return l
}

// numbered is labels of a pair that tells a number; they stand as the numbers do.
func numbered(n int) []api.Pair { return labels("n", fmt.Sprintf("%04d", n)) }

// fullLabels is as many labels as there may be, with the longest names and values.
func fullLabels() []api.Pair {
	var l []api.Pair
	for _, sign := range "_abcdxyz" {
		l = append(l, api.Pair{Name: long + string(sign), Value: full})
	}
	return l
}

// of is a sample of labels, whose value tells its time.
func of(l []api.Pair, t int64) api.Sample { return api.Sample{Labels: l, T: t, V: uint64(t) * 3} }

// at is a sample of the labels a=1.
func at(t int64, v uint64) api.Sample { return api.Sample{Labels: labels("a", "1"), T: t, V: v} }

// commit is a commit of samples.
func commit(l ...api.Sample) api.Record { return api.Record{Kind: api.RCommit, Samples: l} }

// cut is a delete of what matchers ask for.
func cut(from, to int64, l ...api.Match) api.Record {
	return api.Record{Kind: api.RDelete, Matches: l, From: from, To: to}
}

func equal(name, value string) api.Match {
	return api.Match{Kind: api.MEqual, Name: name, Value: value}
}
func not(name, value string) api.Match { return api.Match{Kind: api.MNot, Name: name, Value: value} }
func prefix(name, value string) api.Match {
	return api.Match{Kind: api.MPrefix, Name: name, Value: value}
}
func some(name string) api.Match { return api.Match{Kind: api.MAny, Name: name} }

// points is points of times, whose values tell them.
func points(times ...int64) []api.Point {
	var l []api.Point
	for _, t := range times {
		l = append(l, api.Point{T: t, V: uint64(t) * 3})
	}
	return l
}

// rising is so many points, from a time on.
func rising(count int, from int64) []api.Point {
	var l []api.Point
	for i := range count {
		l = append(l, points(from+int64(i*i%7)+int64(i)*10)...)
	}
	return l
}

// row is a row whose greatest time is its last point's.
func row(l []api.Pair, p ...api.Point) Row {
	r := Row{Labels: l, Points: p}
	if len(p) > 0 {
		r.Last = p[len(p)-1].T
	}
	return r
}

// block is a block of rows, of the record 1 alone.
func block(rows ...Row) Block { return Block{First: 1, To: 1, Rows: rows} }

// sameRecord tells whether two records are the same.
func sameRecord(a, b api.Record) bool {
	return a.Kind == b.Kind && a.From == b.From && a.To == b.To && slices.Equal(a.Matches, b.Matches) && len(a.Samples)+len(b.Samples) == 0
}

// sameRow tells whether two rows are the same.
func sameRow(a, b Row) bool {
	return a.Last == b.Last && slices.Equal(a.Labels, b.Labels) && slices.Equal(a.Points, b.Points)
}

// same tells whether two blocks are the same, be their empty lists nil or not.
func same(a, b Block) bool {
	return a.First == b.First && a.To == b.To && slices.EqualFunc(a.Rows, b.Rows, sameRow) && slices.EqualFunc(a.Dels, b.Dels, sameRecord)
}

// brief is a block as it is told beside a fault.
func brief(b Block) string {
	return fmt.Sprintf("first %d, to %d, %d rows %.300q, %d dels %.200q", b.First, b.To, len(b.Rows), fmt.Sprint(b.Rows), len(b.Dels), fmt.Sprint(b.Dels))
}

// wantCheck checks a block, and asks Encode for the same error, and for nothing beside it.
func wantCheck(t *testing.T, b Block, want api.Errno) {
	t.Helper()
	if e := plainCheck(b); e != want {
		t.Errorf("%s: %v by another way; want %v", brief(b), e, want)
	}
	if e := Check(b); e != want {
		t.Errorf("Check of %s: %v; want %v", brief(b), e, want)
	}
	s, e := Encode(b)
	if e != want || (s == "") != (want != api.OK) {
		t.Errorf("Encode of %s: %d bytes, %v; want %v", brief(b), len(s), e, want)
	}
}

// wantOf asks Of for a block, or for an error and nothing beside it; it is as by another way, and right.
func wantOf(t *testing.T, from int, l []api.Record, want Block, wantErrno api.Errno) {
	t.Helper()
	p, e := plainOf(from, l)
	if e != wantErrno || !same(p, want) {
		t.Errorf("of %d and %d records: %s, %v by another way; want %s, %v", from, len(l), brief(p), e, brief(want), wantErrno)
	}
	b, e := Of(from, l)
	if e != wantErrno || !same(b, want) {
		t.Errorf("Of %d and %d records: %s, %v; want %s, %v", from, len(l), brief(b), e, brief(want), wantErrno)
	}
	if e := Check(b); wantErrno == api.OK && e != api.OK {
		t.Errorf("Check of %s, which Of told: %v", brief(b), e)
	}
}

// wantNoBlock asks Of for an error.
func wantNoBlock(t *testing.T, from int, l []api.Record, want api.Errno) {
	t.Helper()
	wantOf(t, from, l, Block{}, want)
}

// records is records in a row.
func records(l ...api.Record) []api.Record { return l }

// The chapter's example.
func TestExample(t *testing.T) {
	l := records(commit(at(5, 7)), cut(first, 9))
	a := row(labels("a", "1"), api.Point{T: 5, V: 7})
	wantOf(t, 1, l[:1], Block{First: 1, To: 1, Rows: []Row{a}}, api.OK)
	wantOf(t, 1, l, Block{First: 1, To: 2, Rows: []Row{{Labels: a.Labels, Last: 5}}, Dels: l[1:]}, api.OK)
}

// badLabels is pairs that are no labels, each in another way.
func badLabels() [][]api.Pair {
	return [][]api.Pair{
		nil,
		{},
		labels("", "1"),
		labels("a", ""),
		labels("A", "1"),
		labels("a1", "1"),
		labels("a", "\x7F"),
		labels("a", "1\n"),
		labels("b", "2", "a", "1"),
		labels("a", "1", "a", "1"),
		labels("a", "1", "a", "2"),
		labels("a", "1", "b", ""),
		labels("a", "1", "", "2"),
		labels("a", "1", "b", "1", "c", "1", "d", "1", "e", "1", "f", "1", "g", "1", "h", "1", "i", "1"),
		labels(long+"ee", "1"),
		labels("a", full+"4"),
		make([]api.Pair, 10_000),
	}
}

// badDeletes is records that are no deletes that are right, each in another way.
func badDeletes() []api.Record {
	return []api.Record{
		{},
		{From: 1, To: 2},
		{Kind: 3},
		{Kind: -1},
		{Kind: 1<<32 + api.RDelete},
		commit(at(5, 7)),
		commit(),
		{Kind: api.RCommit, From: 1, To: 2},
		{Kind: api.RDelete, Samples: []api.Sample{at(5, 7)}},
		cut(2, 1),
		cut(last, first),
		cut(0, 1, equal("A", "1")),
		cut(0, 1, some("a"), api.Match{Kind: api.MAny, Name: "b", Value: "1"}),
		cut(0, 1, api.Match{Name: "a"}),
		cut(0, 1, api.Match{Kind: 5, Name: "a"}),
		cut(0, 1, slices.Repeat([]api.Match{some("a")}, 9)...),
	}
}

// goodDeletes is deletes that are right.
func goodDeletes() []api.Record {
	return []api.Record{
		cut(0, 0),
		cut(first, last),
		cut(last, last, some("a")),
		cut(first, first, equal("a", ""), not("b", "2"), prefix("c", "")),
		cut(-1, 1, slices.Repeat([]api.Match{equal(long+"x", full)}, 8)...),
	}
}

// Promise 15.1: First and To are from 1 to 99999999, and First is at most To.
func TestCheckNumbers(t *testing.T) {
	edges := []int{math.MinInt64, math.MinInt64 + 1, -1 << 32, -most, -1, 0, 1, 2, 3, 255, 256, 12345678, most - 1, most, most + 1, 1 << 31, 1<<32 + 1, math.MaxInt64 - 1, math.MaxInt64}
	bad := Block{Rows: []Row{{}}, Dels: []api.Record{{}}}
	for _, from := range edges {
		for _, to := range edges {
			want := api.ErrRange
			if from >= 1 && to <= most && from <= to {
				want = api.OK
			}
			wantCheck(t, Block{First: from, To: to}, want)
			wantCheck(t, Block{First: from, To: to, Rows: []Row{row(labels("a", "1"))}, Dels: goodDeletes()}, want)
			if want == api.OK {
				want = api.ErrLabel
			}
			wantCheck(t, Block{First: from, To: to, Rows: bad.Rows, Dels: bad.Dels}, want)
		}
	}
	wantCheck(t, Block{}, api.ErrRange)
}

// Promise 15.1: what may be: no rows, no deletes, far more of them than a head has series or a span records; rows without points, and any greatest time above them.
func TestCheckRight(t *testing.T) {
	wantCheck(t, block(), api.OK)
	wantCheck(t, Block{First: 7, To: 9, Rows: []Row{}, Dels: []api.Record{}}, api.OK)
	var b Block
	for n := range 1000 {
		b.Rows = append(b.Rows, row(numbered(n), rising(n%5, int64(n))...))
		b.Dels = append(b.Dels, goodDeletes()[n%5])
	}
	b.First, b.To = most, most
	wantCheck(t, b, api.OK)
	for _, time := range []int64{first, -1, 0, 1, last} {
		wantCheck(t, block(Row{Labels: fullLabels(), Last: time}), api.OK)
		wantCheck(t, block(Row{Labels: fullLabels(), Last: time, Points: points(time)}), api.OK)
		wantCheck(t, block(Row{Labels: fullLabels(), Last: last, Points: points(time)}), api.OK)
	}
	wantCheck(t, block(row(labels("a", "1"), points(first, first+1, -1, 0, 1, last-1, last)...)), api.OK)
	for _, count := range []int{1, 2, 63, 64, 65, 127, 128, 129, 1000} {
		wantCheck(t, block(row(labels("a", "1"), rising(count, -300)...)), api.OK)
	}
}

// Promise 15.1: ErrLabel, at each row's place, and ahead of that row's other faults.
func TestCheckLabels(t *testing.T) {
	for _, l := range badLabels() {
		wantCheck(t, block(Row{Labels: l}), api.ErrLabel)
		wantCheck(t, block(Row{Labels: l, Points: points(2, 1)}), api.ErrLabel)
		wantCheck(t, block(Row{Labels: l, Points: points(1)}), api.ErrLabel)
		for place := range 6 {
			b := block()
			for n := range 6 {
				b.Rows = append(b.Rows, row(labels("n", fmt.Sprint(n)), points(1, 2)...))
			}
			b.Rows[place].Labels = l
			wantCheck(t, b, api.ErrLabel)
			b.Dels = badDeletes()
			wantCheck(t, b, api.ErrLabel)
			// A row ahead that is not in order says it, one behind does not.
			b.Rows[2].Points = points(2, 1)
			want := api.ErrOrder
			if place <= 2 {
				want = api.ErrLabel
			}
			wantCheck(t, b, want)
		}
	}
}

// Promise 15.1: rows stand in the order of their labels, strictly; each pair of places of rows that rise, turned round.
func TestCheckRowsOrder(t *testing.T) {
	inOrder := [][]api.Pair{
		labels("_", "1"),
		labels("a", " "),
		labels("a", "1"),
		labels("a", "1", "aa", "1"),
		labels("a", "1", "b", "1"),
		labels("a", "1", "b", "1", "c", "1"),
		labels("a", "1", "b", "2"),
		labels("a", "1", "bb", "1"),
		labels("a", "1", "c", "1"),
		labels("a", "10"),
		labels("a", "2"),
		labels("a", "~"),
		labels("aa", "0"),
		labels("b", "1"),
		labels("b", "1", "z", "1"),
		labels("z", "1"),
		labels("z", "1", "za", "1"),
	}
	for i, a := range inOrder {
		for j, b := range inOrder {
			want := api.OK
			if i >= j {
				want = api.ErrOrder
			}
			wantCheck(t, block(Row{Labels: a}, Row{Labels: b}), want)
			wantCheck(t, block(row(a, points(1)...), Row{Labels: b, Points: points(2, 1), Last: 2}), api.ErrOrder)
			// Each row is held against the one ahead, wherever they stand.
			rows := make([]Row, len(inOrder))
			for n := range rows {
				rows[n].Labels = inOrder[n]
			}
			rows[i], rows[j] = rows[j], rows[i]
			if want = api.OK; i != j {
				want = api.ErrOrder
			}
			wantCheck(t, block(rows...), want)
			rows[i] = Row{Labels: b}
			wantCheck(t, block(rows...), want)
		}
	}
	fulls := fullLabels()
	fulls[7].Value = full[:63] + "4"
	wantCheck(t, block(Row{Labels: fullLabels()}, Row{Labels: fulls}), api.OK)
	wantCheck(t, block(Row{Labels: fulls}, Row{Labels: fullLabels()}), api.ErrOrder)
	wantCheck(t, block(Row{Labels: fulls}, Row{Labels: slices.Clone(fulls)}), api.ErrOrder)
}

// Promise 15.1: points' times rise strictly at each place, also from one chunk to the next.
func TestCheckPointsOrder(t *testing.T) {
	for _, count := range []int{2, 3, 64, 65, 66, 128, 129, 200} {
		for place := 1; place < count; place++ {
			if count == 200 && place%8 > 1 {
				continue
			}
			p := rising(count, 0)
			for _, time := range []int64{p[place-1].T, p[place-1].T - 1, first, p[0].T} {
				bad := slices.Clone(p)
				bad[place].T = time
				r := Row{Labels: labels("a", "1"), Last: last, Points: bad}
				wantCheck(t, block(r), api.ErrOrder)
				wantCheck(t, block(row(labels("_", "1"), p...), r, row(labels("b", "1"), p...)), api.ErrOrder)
			}
			p[place].T = p[place-1].T + 1
			if place+1 == count || p[place+1].T > p[place].T {
				wantCheck(t, block(Row{Labels: labels("a", "1"), Last: last, Points: p}), api.OK)
			}
		}
	}
	for _, l := range [][]api.Point{points(first, first), points(last, last), points(last, first), points(0, 0), points(1, -1), points(0, 1, 0), points(first, last, first)} {
		wantCheck(t, block(Row{Labels: labels("a", "1"), Last: last, Points: l}), api.ErrOrder)
	}
}

// Promise 15.1: no point is above Last, and each may be at it.
func TestCheckLast(t *testing.T) {
	for _, count := range []int{1, 2, 63, 64, 65, 130} {
		r := row(labels("a", "1"), rising(count, -40)...)
		wantCheck(t, block(r), api.OK)
		greatest := r.Last
		for _, below := range []int64{greatest - 1, greatest - 7, -40 - 1, first} {
			r.Last = below
			wantCheck(t, block(r), api.ErrOrder)
			wantCheck(t, block(Row{Labels: labels("_", "1")}, r, Row{}), api.ErrOrder)
		}
		for _, above := range []int64{greatest + 1, last} {
			r.Last = above
			wantCheck(t, block(r), api.OK)
		}
	}
	for _, x := range []struct {
		time, greatest int64
		want           api.Errno
	}{{first, first, api.OK}, {first + 1, first, api.ErrOrder}, {last, last, api.OK}, {last, last - 1, api.ErrOrder}, {last, first, api.ErrOrder}, {0, -1, api.ErrOrder}, {-1, 0, api.OK}, {0, 0, api.OK}, {1, 0, api.ErrOrder}, {-1, -1, api.OK}, {-1, -2, api.ErrOrder}} {
		wantCheck(t, block(Row{Labels: labels("a", "1"), Last: x.greatest, Points: points(x.time)}), x.want)
	}
}

// Promise 15.1: ErrKind, at each delete's place, behind all faults of rows.
func TestCheckDeletes(t *testing.T) {
	for _, d := range goodDeletes() {
		wantCheck(t, Block{First: 1, To: 1, Dels: records(d)}, api.OK)
		wantCheck(t, Block{First: 1, To: 1, Dels: records(d, d)}, api.OK)
	}
	wantCheck(t, Block{First: 1, To: 1, Dels: records(api.Record{Kind: api.RDelete, Samples: []api.Sample{}, Matches: []api.Match{}})}, api.OK)
	for _, d := range badDeletes() {
		for place := range 5 {
			b := Block{First: 1, To: 1, Dels: goodDeletes(), Rows: []Row{row(labels("a", "1"), points(1)...)}}
			b.Dels[place] = d
			wantCheck(t, b, api.ErrKind)
			wantCheck(t, Block{First: 1, To: 1, Dels: b.Dels}, api.ErrKind)
			wantCheck(t, Block{First: 2, To: 1, Dels: b.Dels}, api.ErrRange)
			b.Rows[0].Last = 0
			wantCheck(t, b, api.ErrOrder)
			b.Rows[0].Labels = nil
			wantCheck(t, b, api.ErrLabel)
		}
	}
}

// Promise 15.1: of several faults the first one, in all rows of up to three of a few rows.
func TestCheckFirstFault(t *testing.T) {
	rows := []Row{
		row(labels("a", "1"), points(1, 5)...),
		row(labels("a", "1", "b", "2")),
		row(labels("a", "2"), points(3)...),
		row(labels("b", "1"), points(2)...),
		{},
		{Labels: labels("A", "1"), Last: 1, Points: points(2)},
		{Labels: labels("a", "1"), Last: 5, Points: points(5, 1)},
		{Labels: labels("b", "1"), Last: 5, Points: points(5, 5)},
		{Labels: labels("c", "1"), Last: 1, Points: points(2)},
	}
	good, bad := goodDeletes()[0], badDeletes()
	deletes := [][]api.Record{nil, {good}, {bad[0]}, {good, bad[9]}, {bad[5], good}}
	var seen [20]int
	hold := func(l ...Row) {
		for _, d := range deletes {
			for _, to := range []int{0, 1, 2} {
				b := Block{First: 1, To: to, Rows: l, Dels: d}
				want := plainCheck(b)
				wantCheck(t, b, want)
				seen[want]++
			}
		}
	}
	hold()
	for _, a := range rows {
		hold(a)
		for _, b := range rows {
			hold(a, b)
			for _, c := range rows {
				hold(a, b, c)
			}
		}
	}
	for _, e := range []api.Errno{api.OK, api.ErrRange, api.ErrLabel, api.ErrOrder, api.ErrKind} {
		if seen[e] < 10 {
			t.Errorf("%v was told %d times alone", e, seen[e])
		}
	}
}

// someRecords is so many records that a head takes one by one.
func someRecords(count int) []api.Record {
	var l []api.Record
	for n := range count {
		l = append(l, commit(of(numbered(n%5), int64(n))))
	}
	return l
}

// Promise 15.3: ErrRange, if first, or the last one's number, is not from 1 to 99999999, or there is none.
func TestOfRange(t *testing.T) {
	edges := []int{math.MinInt64, math.MinInt64 + 1, -most, -2, -1, 0, 1, 2, 99, most - 3, most - 2, most - 1, most, most + 1, 1 << 32, math.MaxInt64 - 2, math.MaxInt64 - 1, math.MaxInt64}
	for _, from := range edges {
		for count := range 5 {
			l := someRecords(count)
			b, e := Of(from, l)
			want := api.OK
			if from < 1 || from > most || count == 0 || from > most+1-count {
				want = api.ErrRange
			}
			if e != want {
				t.Errorf("Of %d and %d records: %v; want %v", from, count, e, want)
			}
			if want != api.OK {
				wantNoBlock(t, from, l, want)
				// It stands ahead of what is wrong with the records.
				wantNoBlock(t, from, make([]api.Record, count), want)
				continue
			}
			if b.First != from || b.To != from+count-1 || len(b.Rows) != count || len(b.Dels) != 0 {
				t.Errorf("Of %d and %d records: %s", from, count, brief(b))
			}
		}
		wantNoBlock(t, from, nil, api.ErrRange)
		wantNoBlock(t, from, []api.Record{}, api.ErrRange)
	}
	many := someRecords(300)
	for _, from := range []int{1, most - 300, most - 299} {
		b, _ := plainOf(from, many)
		wantOf(t, from, many, b, api.OK)
	}
	wantNoBlock(t, most-298, many, api.ErrRange)
	wantNoBlock(t, most, many, api.ErrRange)
}

// Promise 15.3: the error of a head's Apply of the first record that has one, at each place.
func TestOfErrors(t *testing.T) {
	for _, x := range []struct {
		r api.Record
		e api.Errno
	}{
		{api.Record{}, api.ErrKind},
		{api.Record{Kind: 3}, api.ErrKind},
		{commit(), api.ErrRange},
		{commit(slices.Repeat([]api.Sample{at(5, 7)}, 33)...), api.ErrRange},
		{api.Record{Kind: api.RCommit, Samples: []api.Sample{at(500, 7)}, To: 1}, api.ErrField},
		{api.Record{Kind: api.RDelete, Samples: []api.Sample{at(500, 7)}}, api.ErrField},
		{commit(of(labels("A", "1"), 500)), api.ErrLabel},
		{commit(at(500, 7), of(nil, 500)), api.ErrLabel},
		{cut(2, 1), api.ErrOrder},
		{cut(0, 1, make([]api.Match, 9)...), api.ErrLong},
		{cut(0, 1, api.Match{Kind: 5, Name: "a"}), api.ErrKind},
		{cut(0, 1, equal("A", "1")), api.ErrField},
		{commit(at(500, 7), at(500, 7)), api.ErrOld},
	} {
		for place := range 8 {
			l := someRecords(7)
			l = slices.Insert(l, place, x.r)
			wantNoBlock(t, 1, l, x.e)
			wantNoBlock(t, most-7, l, x.e)
			wantNoBlock(t, 1, append(l, badDeletes()...), x.e)
			wantNoBlock(t, most-6, l, api.ErrRange)
		}
	}
	// Of the head behind the records ahead: a time that was there, be it there still or not.
	wantNoBlock(t, 1, records(commit(at(5, 7)), commit(at(5, 7))), api.ErrOld)
	wantNoBlock(t, 1, records(commit(at(5, 7)), cut(first, last), commit(at(5, 7))), api.ErrOld)
	wantNoBlock(t, 1, records(commit(at(5, 7)), cut(first, 9), commit(of(labels("b", "1"), 1)), commit(at(4, 7))), api.ErrOld)
}

// Promise 15.3: a span may have 256 series, and no more, also where their points are gone.
func TestOfManySeries(t *testing.T) {
	var l []api.Record
	for n := range 256 {
		l = append(l, commit(of(numbered((n*37+5)%256), int64(n))))
	}
	b, _ := plainOf(9, l)
	wantOf(t, 9, l, b, api.OK)
	if len(b.Rows) != 256 {
		t.Fatalf("%d rows", len(b.Rows))
	}
	wantNoBlock(t, 9, append(slices.Clone(l), commit(of(labels("z", "1"), 1))), api.ErrFull)
	l = append(l, cut(first, last))
	wantNoBlock(t, 9, append(slices.Clone(l), commit(of(labels("z", "1"), 1))), api.ErrFull)
	l = append(l, commit(of(numbered(0), 1000)))
	b, _ = plainOf(9, l)
	wantOf(t, 9, l, b, api.OK)
}

// Promise 15.3: rows stand in the order of their labels, whatever the samples' is, with all their points and greatest times.
func TestOfRows(t *testing.T) {
	all := [][]api.Pair{labels("_", "9"), labels("a", "1"), labels("a", "1", "b", "2"), labels("a", "1", "c", "1"), labels("a", "2"), labels("b", "1"), labels("b", "1", "c", "1", "d", "1"), labels("z", "1"), fullLabels()}
	slices.SortFunc(all, func(a, b []api.Pair) int { return slices.Compare(flat(a), flat(b)) })
	for seed := range 60 {
		var l []api.Record
		want := Block{First: 3, To: 12}
		for _, pairs := range all {
			want.Rows = append(want.Rows, Row{Labels: pairs})
		}
		for i := range 10 {
			r := commit()
			for j := range 1 + mixed(seed+i)%6 {
				n := int(mixed(seed*1000+i*10+int(j)) % uint64(len(all)))
				if i == 9 {
					n = int(j)
				}
				time := int64(i*10+int(j)) - 50
				r.Samples = append(r.Samples, of(all[n], time))
				want.Rows[n].Points = append(want.Rows[n].Points, points(time)...)
				want.Rows[n].Last = time
			}
			l = append(l, r)
		}
		want.Rows = slices.DeleteFunc(want.Rows, func(r Row) bool { return len(r.Points) == 0 })
		wantOf(t, 3, l, want, api.OK)
	}
}

// Promise 15.3: of what a delete takes away the row stays, with its greatest time; a delete takes nothing away that comes behind it.
func TestOfDeletes(t *testing.T) {
	a, b, ab := labels("a", "1"), labels("b", "1"), labels("a", "1", "b", "1")
	c := commit(of(a, 1), of(ab, 1), of(b, 1), of(a, 2), of(ab, 2), of(b, 2), of(a, 3))
	again := commit(of(a, 9), of(b, 9))
	for _, x := range []struct {
		d        api.Record
		a, ab, b []api.Point
	}{
		{cut(first, last), nil, nil, nil},
		{cut(first, 1), points(2, 3), points(2), points(2)},
		{cut(2, last), points(1), points(1), points(1)},
		{cut(2, 2), points(1, 3), points(1), points(1)},
		{cut(4, last), points(1, 2, 3), points(1, 2), points(1, 2)},
		{cut(1, 2, some("a")), points(3), nil, points(1, 2)},
		{cut(1, 2, equal("b", "1")), points(1, 2, 3), nil, nil},
		{cut(1, 3, not("a", "1")), points(1, 2, 3), points(1, 2), nil},
		{cut(1, 3, equal("b", "")), nil, points(1, 2), points(1, 2)},
		{cut(1, 3, some("a"), some("b")), points(1, 2, 3), nil, points(1, 2)},
		{cut(1, 3, prefix("a", "2")), points(1, 2, 3), points(1, 2), points(1, 2)},
	} {
		rows := []Row{{a, 3, x.a}, {ab, 2, x.ab}, {b, 2, x.b}}
		wantOf(t, 1, records(c, x.d), Block{First: 1, To: 2, Rows: rows, Dels: records(x.d)}, api.OK)
		wantOf(t, 5, records(x.d, c, x.d, x.d), Block{First: 5, To: 8, Rows: rows, Dels: records(x.d, x.d, x.d)}, api.OK)
		rows = []Row{{a, 9, append(slices.Clone(x.a), points(9)...)}, {ab, 2, x.ab}, {b, 9, append(slices.Clone(x.b), points(9)...)}}
		wantOf(t, 1, records(c, x.d, again), Block{First: 1, To: 3, Rows: rows, Dels: records(x.d)}, api.OK)
		rows = []Row{{a, 3, points(1, 2, 3)}, {ab, 2, points(1, 2)}, {b, 2, points(1, 2)}}
		wantOf(t, 1, records(x.d, c), Block{First: 1, To: 2, Rows: rows, Dels: records(x.d)}, api.OK)
	}
	// Deletes alone, in their order, the same one several times.
	dels := append(goodDeletes(), goodDeletes()[1], goodDeletes()[0])
	wantOf(t, 1, dels, Block{First: 1, To: 7, Dels: dels}, api.OK)
	slices.Reverse(dels)
	wantOf(t, 1, dels, Block{First: 1, To: 7, Dels: dels}, api.OK)
}

// Promise 15.3: times and values at the types' ends.
func TestOfEdges(t *testing.T) {
	for _, time := range []int64{first, first + 1, -1, 0, 1, last - 1, last} {
		for _, v := range []uint64{0, 1, 1 << 63, math.MaxUint64} {
			x := api.Sample{Labels: labels("a", "1"), T: time, V: v}
			want := block(Row{Labels: x.Labels, Last: time, Points: []api.Point{{T: time, V: v}}})
			wantOf(t, 1, records(commit(x)), want, api.OK)
			d := cut(time, time)
			wantOf(t, 1, records(commit(x), d), Block{First: 1, To: 2, Rows: []Row{{Labels: x.Labels, Last: time}}, Dels: records(d)}, api.OK)
		}
	}
	x := commit(of(labels("a", "1"), first), of(labels("a", "1"), 0), of(labels("a", "1"), last))
	wantOf(t, 1, records(x), block(row(labels("a", "1"), points(first, 0, last)...)), api.OK)
}

// anyLabels is labels of a few.
func anyLabels(c uint64) []api.Pair {
	l := labels("a", fmt.Sprint(c%3), "b", fmt.Sprint(c>>4%2), "c", "x")
	return l[c>>8%2 : 1+c>>8%2+c>>12%2]
}

// anyMatches is a few matchers.
func anyMatches(c uint64) []api.Match {
	var l []api.Match
	for range c % 3 {
		c = mixed(int(c % (1 << 62)))
		m := api.Match{Kind: 1 + int(c%4), Name: string("abcd"[c>>4%4])}
		if m.Kind != api.MAny {
			m.Value = []string{"", "0", "1", "2", "x"}[c>>8%5]
		}
		l = append(l, m)
	}
	return l
}

// anyRecord is a record that a head may take, or not; near is about which times it has.
func anyRecord(seed int, near int64) api.Record {
	c := mixed(seed)
	switch {
	case c%400 == 0:
		return badDeletes()[c>>10%5]
	case c%4 == 1:
		from, to := near-20+int64(c>>10%20), near-20+int64(c>>20%20)
		return cut(min(from, to), max(from, to), anyMatches(c>>12)...)
	}
	r := commit()
	for i := range 1 + c>>8%4 {
		d := mixed(seed + 1000 + int(i))
		back := int64(0)
		if d%200 == 0 {
			back = int64(d >> 10 % 100)
		}
		r.Samples = append(r.Samples, api.Sample{Labels: anyLabels(d >> 20), T: near + int64(i) - back, V: d})
	}
	return r
}

// anyRecords is records that a head may take, all or not.
func anyRecords(count, seed int) []api.Record {
	var l []api.Record
	for i := range count {
		l = append(l, anyRecord(seed*10_000+i*50, int64(i*6)))
	}
	return l
}

// Promise 15.3: any records, against another way.
func TestOfIsPlain(t *testing.T) {
	var seen [20]int
	for seed := range 2000 {
		l, from := anyRecords(1+seed%60, seed), 1+int(mixed(seed)%most)
		want, e := plainOf(from, l)
		wantOf(t, from, l, want, e)
		seen[e]++
	}
	for _, e := range []api.Errno{api.OK, api.ErrOld, api.ErrKind} {
		if seen[e] < 20 {
			t.Errorf("%v was told %d times alone", e, seen[e])
		}
	}
}

// Promise 15.3: spans of a history, one behind the other, each on a head of its own: what one has no other one has.
func TestOfIsNew(t *testing.T) {
	l := records(commit(at(5, 7)), commit(of(labels("b", "1"), 9)))
	for range 3 {
		wantOf(t, 1, l[:1], block(row(labels("a", "1"), api.Point{T: 5, V: 7})), api.OK)
		wantOf(t, 2, l[1:], Block{First: 2, To: 2, Rows: []Row{row(labels("b", "1"), points(9)...)}}, api.OK)
		// What is no newer than a span ahead is not refused in a span of its own.
		wantOf(t, 3, l[:1], Block{First: 3, To: 3, Rows: []Row{row(labels("a", "1"), api.Point{T: 5, V: 7})}}, api.OK)
	}
}

// withRoom is rows, deletes and records, behind whose ends there is more in their rooms.
func withRoom() ([]Row, []api.Record, []api.Record) {
	pairs, p := labels("a", "1", "b", "2", "c", "3"), rising(130, 0)
	rows := []Row{{pairs[:1], last, p[:65]}, {pairs[:2], last, p[:129]}, {pairs, 4, p}}
	matches := []api.Match{equal("a", "1"), some("b"), some("c")}
	dels := records(cut(0, 1, matches[:1]...), cut(2, 3, matches[:2]...), cut(4, 5))
	samples := []api.Sample{of(pairs[:2], 5), of(pairs[:1], 5), at(9, 9), of(pairs, 2)}
	l := records(commit(samples[:2]...), cut(1, 2, matches[:2]...), commit(samples[2:3]...), cut(3, 4))
	return rows[:2], dels[:2], l[:3]
}

// tellRoom is all that stands in the rooms of rows, deletes and records.
func tellRoom(rows []Row, dels, l []api.Record) string {
	s := ""
	for _, r := range rows[:cap(rows)] {
		s += fmt.Sprintln(r.Last, r.Labels[:cap(r.Labels)], r.Points[:cap(r.Points)])
	}
	for _, r := range append(dels[:cap(dels):cap(dels)], l[:cap(l)]...) {
		s += fmt.Sprintln(r.Kind, r.Samples[:cap(r.Samples)], r.Matches[:cap(r.Matches)], r.From, r.To)
	}
	return s
}

// R4: what is handed in is not changed, and what lies behind its end neither.
func TestHandedIn(t *testing.T) {
	rows, dels, l := withRoom()
	as := tellRoom(rows, dels, l)
	wantCheck(t, Block{First: 1, To: 2, Rows: rows, Dels: dels}, api.OK)
	wantCheck(t, Block{First: 1, To: 2, Rows: []Row{rows[1], rows[0]}, Dels: dels}, api.ErrOrder)
	b, e := Of(1, l)
	if e != api.OK || len(b.Rows) != 2 || len(b.Dels) != 1 {
		t.Errorf("Of: %s, %v", brief(b), e)
	}
	if got := tellRoom(rows, dels, l); got != as {
		t.Errorf("what was handed in has been changed: %s; want %s", got, as)
	}
}

// R4: what Of is handed it does not keep, and what it hands out shares nothing with that, with another answer, with another list of the same one.
func TestOfNewMemory(t *testing.T) {
	_, _, l := withRoom()
	a, e := Of(1, l)
	other, f := Of(1, l)
	want, _ := plainOf(1, l)
	if e != api.OK || f != api.OK || !same(a, want) || !same(other, want) {
		t.Fatalf("Of: %s, %v; %s, %v", brief(a), e, brief(other), f)
	}
	want = Block{First: 1, To: 3, Rows: []Row{{labels("a", "1"), 9, []api.Point{{T: 5, V: 15}, {T: 9, V: 9}}}, {labels("a", "1", "b", "2"), 5, points(5)}}, Dels: records(cut(1, 2, equal("a", "1"), some("b")))}
	as := tellRoom(nil, nil, l)
	for i := range a.Rows {
		clear(a.Rows[i].Labels[:cap(a.Rows[i].Labels)])
		if i == 0 && !sameRow(a.Rows[1], want.Rows[1]) {
			t.Error("two rows share memory")
		}
		clear(a.Rows[i].Points[:cap(a.Rows[i].Points)])
	}
	clear(a.Dels[0].Matches[:cap(a.Dels[0].Matches)])
	clear(a.Dels[:cap(a.Dels)])
	clear(a.Rows[:cap(a.Rows)])
	if got := tellRoom(nil, nil, l); got != as {
		t.Errorf("an answer shares memory with what was handed in: %s; want %s", got, as)
	}
	if !same(other, want) {
		t.Errorf("an answer shares memory with another one: %s", brief(other))
	}
	for i := range l {
		for _, x := range l[i].Samples {
			clear(x.Labels)
		}
		clear(l[i].Samples)
		clear(l[i].Matches)
	}
	clear(l)
	if !same(other, want) {
		t.Errorf("what was handed in is kept: %s", brief(other))
	}
	// Two deletes of the same matchers, and lists that are empty but have room.
	matches, samples := []api.Match{some("a")}, []api.Sample{at(5, 7)}
	b, e := Of(1, records(cut(0, 1, matches...), cut(2, 3, matches...), api.Record{Kind: api.RDelete, Samples: samples[:0], Matches: matches[:0]}))
	if e != api.OK {
		t.Fatal(e)
	}
	_ = append(b.Dels[2].Samples, at(1, 1))
	_ = append(b.Dels[2].Matches, some("c"))
	b.Dels[0].Matches[0] = some("b")
	if matches[0] != some("a") || b.Dels[1].Matches[0] != some("a") || samples[0].T != 5 {
		t.Error("deletes share memory")
	}
}

// Promise 15.3: the chapter's example.
func ExampleOf() {
	c := api.Record{Kind: api.RCommit, Samples: []api.Sample{{Labels: []api.Pair{{Name: "a", Value: "1"}}, T: 5, V: 7}}}
	fmt.Println(Of(1, []api.Record{c}))
	fmt.Println(Of(1, []api.Record{c, {Kind: api.RDelete, To: 9}}))
	fmt.Println(Of(0, []api.Record{c}))
	// Output:
	// {1 1 [{[{a 1}] 5 [{5 7}]}] []} error 0
	// {1 2 [{[{a 1}] 5 []}] [{2 [] [] 0 9}]} error 0
	// {0 0 [] []} error 2
}
