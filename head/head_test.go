package head

import (
	"fmt"
	"maps"
	"math"
	"regexp"
	"slices"
	"strings"
	"testing"

	"barograph/api"
)

const (
	// last and first are the greatest and the least time.
	last  = math.MaxInt64
	first = math.MinInt64
	// full is as many signs as a value may have.
	full = "0123456789012345678901234567890123456789012345678901234567890123"
	// long is as many signs as a name may have, but for the last one.
	long = "abcdefghijklmnopqrstuvwxyz_abcd"
)

var (
	plainName  = regexp.MustCompile(`\A[_abcdefghijklmnopqrstuvwxyz]{1,32}\z`)
	plainValue = regexp.MustCompile(`\A[\x20-\x7E]{0,64}\z`)
)

// flat is all texts of pairs in a row: labels stand as these rows do.
func flat(l []api.Pair) []string {
	var texts []string
	for _, p := range l {
		texts = append(texts, p.Name, p.Value)
	}
	return texts
}

// tell is pairs as one text, another one for each list of pairs.
func tell(l []api.Pair) string { return fmt.Sprintf("%q", flat(l)) }

// plainLabels tells whether pairs are labels.
func plainLabels(l []api.Pair) bool {
	var names []string
	for _, p := range l {
		if !plainName.MatchString(p.Name) || !plainValue.MatchString(p.Value) || p.Value == "" {
			return false
		}
		names = append(names, p.Name)
	}
	sorted := slices.Compact(slices.Sorted(slices.Values(names)))
	return len(l) > 0 && len(l) < 9 && slices.Equal(names, sorted)
}

// plainMatches tells what is wrong with matchers.
func plainMatches(l []api.Match) api.Errno {
	if len(l) >= 9 {
		return api.ErrLong
	}
	for _, m := range l {
		switch {
		case m.Kind < 1 || m.Kind > 4:
			return api.ErrKind
		case !plainName.MatchString(m.Name), !plainValue.MatchString(m.Value), m.Kind == 4 && m.Value != "":
			return api.ErrField
		}
	}
	return api.OK
}

// plainIs tells whether matchers hold of labels.
func plainIs(l []api.Match, labels []api.Pair) bool {
	if plainMatches(l) != api.OK {
		return false
	}
	for _, m := range l {
		v := ""
		for _, p := range labels {
			if p.Name == m.Name {
				v = p.Value
			}
		}
		if holds := [4]bool{v == m.Value, v != m.Value, strings.HasPrefix(v, m.Value), v != ""}; !holds[m.Kind-1] {
			return false
		}
	}
	return true
}

// plainCheck tells what is wrong with a record, whatever a head has.
func plainCheck(r api.Record) api.Errno {
	switch {
	case r.Kind != 1 && r.Kind != 2:
		return api.ErrKind
	case r.Kind == 1 && (len(r.Matches) > 0 || r.From != 0 || r.To != 0), r.Kind == 2 && len(r.Samples) > 0:
		return api.ErrField
	case r.Kind == 1 && (len(r.Samples) == 0 || len(r.Samples) > 32):
		return api.ErrRange
	case slices.ContainsFunc(r.Samples, func(x api.Sample) bool { return !plainLabels(x.Labels) }):
		return api.ErrLabel
	case r.Kind == 2 && plainMatches(r.Matches) != api.OK:
		return plainMatches(r.Matches)
	case r.From > r.To:
		return api.ErrOrder
	}
	return api.OK
}

// plain is a head by another way: the history itself, of which each answer is worked out anew.
type plain struct{ history []api.Record }

// samples is all samples that were ever committed, in their order.
func (p *plain) samples() []api.Sample {
	var l []api.Sample
	for _, r := range p.history {
		l = append(l, r.Samples...)
	}
	return l
}

// left is the samples that no delete behind them has taken away.
func (p *plain) left() []api.Sample {
	var l []api.Sample
	for _, r := range p.history {
		l = append(l, r.Samples...)
		if r.Kind == api.RDelete {
			l = slices.DeleteFunc(l, func(x api.Sample) bool {
				return plainIs(r.Matches, x.Labels) && !(x.T < r.From) && !(x.T > r.To)
			})
		}
	}
	return l
}

// names is the labels of all series, each once.
func (p *plain) names() map[string][]api.Pair {
	all := make(map[string][]api.Pair)
	for _, x := range p.samples() {
		all[tell(x.Labels)] = x.Labels
	}
	return all
}

// times is all times that samples of some labels ever had, rising.
func (p *plain) times(labels []api.Pair) []int64 {
	var l []int64
	for _, x := range p.samples() {
		if slices.Equal(x.Labels, labels) {
			l = append(l, x.T)
		}
	}
	slices.Sort(l)
	return l
}

// try tells whether a record may be applied: a commit's samples one by one, each as a commit of its own behind those ahead.
func (p *plain) try(r api.Record) api.Errno {
	if e := plainCheck(r); e != api.OK || r.Kind == api.RDelete {
		return e
	}
	behind := &plain{history: slices.Clone(p.history)}
	for _, x := range r.Samples {
		if l := behind.times(x.Labels); len(l) > 0 && x.T <= l[len(l)-1] {
			return api.ErrOld
		}
		behind.history = append(behind.history, commit(x))
	}
	if len(behind.names()) > 256 {
		return api.ErrFull
	}
	return api.OK
}

// apply puts a record to the history, if it may be.
func (p *plain) apply(r api.Record) api.Errno {
	e := p.try(r)
	if e == api.OK {
		p.history = append(p.history, r)
	}
	return e
}

// query is the series that are asked for, in the order of their labels.
func (p *plain) query(l []api.Match, from, to int64) []api.Series {
	found := make(map[string]*api.Series)
	for _, x := range p.left() {
		if !plainIs(l, x.Labels) || x.T < from || x.T > to {
			continue
		}
		s := found[tell(x.Labels)]
		if s == nil {
			s = &api.Series{Labels: x.Labels}
			found[tell(x.Labels)] = s
		}
		s.Points = append(s.Points, api.Point{T: x.T, V: x.V})
	}
	var told []api.Series
	for _, s := range found {
		told = append(told, *s)
	}
	slices.SortFunc(told, func(a, b api.Series) int { return slices.Compare(flat(a.Labels), flat(b.Labels)) })
	return told
}

// last is the greatest time of some labels' samples.
func (p *plain) last(labels []api.Pair) (int64, bool) {
	l := p.times(labels)
	if len(l) == 0 {
		return 0, false
	}
	return l[len(l)-1], true
}

// top is the greatest time of all samples.
func (p *plain) top() (int64, bool) {
	var l []int64
	for _, x := range p.samples() {
		l = append(l, x.T)
	}
	if len(l) == 0 {
		return 0, false
	}
	return slices.Max(l), true
}

// mixed is a number that looks like any, the same one for the same i.
func mixed(i int) uint64 {
	x := (uint64(i) + 1) * 0x9E3779B97F4A7C15
	x = (x ^ x>>30) * 0xBF58476D1CE4E5B9
	x = (x ^ x>>27) * 0x94D049BB133111EB
	return x ^ x>>31
}

// labels is pairs of names and values that stand by turns.
func labels(texts ...string) []api.Pair {
	var l []api.Pair
	for i := 0; i+1 < len(texts); i += 2 {
		l = append(l, api.Pair{Name: texts[i], Value: texts[i+1]})
	}
	return l
}

// numbered is labels of a pair that tells a number.
func numbered(n int) []api.Pair { return labels("n", fmt.Sprint(n)) }

// at is a sample of the labels a=1.
func at(t int64, v uint64) api.Sample { return api.Sample{Labels: labels("a", "1"), T: t, V: v} }

// of is a sample of labels, whose value tells its time.
func of(l []api.Pair, t int64) api.Sample { return api.Sample{Labels: l, T: t, V: uint64(t) * 3} }

// commit is a commit of samples.
func commit(l ...api.Sample) api.Record { return api.Record{Kind: api.RCommit, Samples: l} }

// cut is a delete of what matchers ask for.
func cut(from, to int64, l ...api.Match) api.Record {
	return api.Record{Kind: api.RDelete, Matches: l, From: from, To: to}
}

func equal(name, value string) api.Match {
	return api.Match{Kind: api.MEqual, Name: name, Value: value}
}
func not(name, value string) api.Match { return api.Match{Kind: api.MNot, Name: name, Value: value} }
func prefix(name, value string) api.Match {
	return api.Match{Kind: api.MPrefix, Name: name, Value: value}
}
func some(name string) api.Match { return api.Match{Kind: api.MAny, Name: name} }

// list is matchers in a row.
func list(l ...api.Match) []api.Match { return l }

// points is points of times, whose values tell them.
func points(times ...int64) []api.Point {
	var l []api.Point
	for _, t := range times {
		l = append(l, api.Point{T: t, V: uint64(t) * 3})
	}
	return l
}

// sameSeries tells whether two series are the same.
func sameSeries(a, b api.Series) bool {
	return slices.Equal(a.Labels, b.Labels) && slices.Equal(a.Points, b.Points)
}

// same tells whether two answers of Query are the same.
func same(a, b []api.Series) bool { return slices.EqualFunc(a, b, sameSeries) }

// brief is a record as it is told beside a fault: what is ahead in it, and how much there is.
func brief(r api.Record) string {
	return fmt.Sprintf("kind %d, %d samples %.200q, %d matchers %.200q, from %d to %d", r.Kind, len(r.Samples), fmt.Sprint(r.Samples), len(r.Matches), fmt.Sprint(r.Matches), r.From, r.To)
}

// must applies records that may be applied.
func must(t *testing.T, h *Head, l ...api.Record) {
	t.Helper()
	for i, r := range l {
		if e := h.Apply(r); e != api.OK {
			t.Fatalf("record %d, %s: %v", i, brief(r), e)
		}
	}
}

// headOf is a head to which records were applied.
func headOf(t *testing.T, l ...api.Record) *Head {
	t.Helper()
	h := New()
	must(t, h, l...)
	return h
}

func wantQuery(t *testing.T, h *Head, l []api.Match, from, to int64, want ...api.Series) {
	t.Helper()
	if got := h.Query(l, from, to); !same(got, want) {
		t.Errorf("Query of %.200q from %d to %d: %.400q; want %.400q", fmt.Sprint(l), from, to, fmt.Sprint(got), fmt.Sprint(want))
	}
}

// wantPoints asks for all points of the labels a=1, the head's one series that has any.
func wantPoints(t *testing.T, h *Head, want []api.Point) {
	t.Helper()
	var told []api.Series
	if len(want) > 0 {
		told = []api.Series{{Labels: labels("a", "1"), Points: want}}
	}
	wantQuery(t, h, nil, first, last, told...)
}

func wantLast(t *testing.T, h *Head, l []api.Pair, want int64, there bool) {
	t.Helper()
	if got, ok := h.Last(l); got != want || ok != there {
		t.Errorf("Last of %.200q: %d, %v; want %d, %v", fmt.Sprint(l), got, ok, want, there)
	}
}

func wantTop(t *testing.T, h *Head, want int64, there bool) {
	t.Helper()
	if got, ok := h.Top(); got != want || ok != there {
		t.Errorf("Top: %d, %v; want %d, %v", got, ok, want, there)
	}
}

func wantCounts(t *testing.T, h *Head, series, points int) {
	t.Helper()
	if a, b := h.Counts(); a != series || b != points {
		t.Errorf("Counts: %d, %d; want %d, %d", a, b, series, points)
	}
}

// wantPlain holds all that a head tells against another way.
func wantPlain(t *testing.T, h *Head, p *plain) {
	t.Helper()
	wantQuery(t, h, nil, first, last, p.query(nil, first, last)...)
	all := p.names()
	wantCounts(t, h, len(all), len(p.left()))
	top, ok := p.top()
	wantTop(t, h, top, ok)
	for _, l := range all {
		greatest, ok := p.last(l)
		wantLast(t, h, l, greatest, ok)
	}
	wantLast(t, h, labels("never", "there"), 0, false)
}

// wantApply tries and applies a record to a head and by another way; where it is refused, nothing happens.
func wantApply(t *testing.T, h *Head, p *plain, r api.Record) api.Errno {
	t.Helper()
	want := p.try(r)
	if e := h.Try(r); e != want {
		t.Fatalf("Try of %s: %v; want %v", brief(r), e, want)
	}
	wantPlain(t, h, p)
	if e := h.Apply(r); e != want {
		t.Fatalf("Apply of %s: %v; want %v", brief(r), e, want)
	}
	p.apply(r)
	wantPlain(t, h, p)
	return want
}

// wantRefused tries and applies a record that is refused; what the head tells stays as it was.
func wantRefused(t *testing.T, h *Head, r api.Record, want api.Errno) {
	t.Helper()
	ahead := h.Copy()
	if e := h.Try(r); e != want {
		t.Errorf("Try of %s: %v; want %v", brief(r), e, want)
	}
	if e := h.Apply(r); e != want {
		t.Errorf("Apply of %s: %v; want %v", brief(r), e, want)
	}
	wantSame(t, h, ahead)
	for _, x := range r.Samples {
		greatest, ok := ahead.Last(x.Labels)
		wantLast(t, h, x.Labels, greatest, ok)
	}
}

// wantSame holds what a head tells of all its series against what another one does.
func wantSame(t *testing.T, h, other *Head) {
	t.Helper()
	all := other.Query(nil, first, last)
	wantQuery(t, h, nil, first, last, all...)
	for _, s := range all {
		greatest, ok := other.Last(s.Labels)
		wantLast(t, h, s.Labels, greatest, ok)
	}
	top, ok := other.Top()
	wantTop(t, h, top, ok)
	a, b := other.Counts()
	wantCounts(t, h, a, b)
}

// The chapter's example, and DOC.md's fifth one.
func TestExamples(t *testing.T) {
	h := headOf(t, commit(at(5, 7)))
	wantPoints(t, h, []api.Point{{T: 5, V: 7}})
	wantRefused(t, h, commit(at(5, 7)), api.ErrOld)
	must(t, h, cut(first, 9))
	wantPoints(t, h, nil)
	wantRefused(t, h, commit(at(5, 7)), api.ErrOld)
	must(t, h, commit(at(6, 7)))
	wantPoints(t, h, []api.Point{{T: 6, V: 7}})

	h = headOf(t, commit(at(7, 1)), cut(first, 9))
	wantRefused(t, h, commit(at(5, 1)), api.ErrOld)
}

// Promises 13.1 and 13.2: a new head has no series, and is one of its own.
func TestNew(t *testing.T) {
	empty := func(h *Head) {
		t.Helper()
		wantPoints(t, h, nil)
		wantQuery(t, h, list(equal("a", "1")), 0, 9)
		wantLast(t, h, labels("a", "1"), 0, false)
		wantTop(t, h, 0, false)
		wantCounts(t, h, 0, 0)
	}
	a, b := New(), New()
	if a == nil || b == nil {
		t.Fatal("no head")
	}
	empty(a)
	must(t, b, cut(first, last), cut(0, 0, equal("a", "1")))
	empty(b)
	must(t, b, commit(at(5, 7)))
	empty(a)
	empty(a.Copy())
	empty(New())
}

// badLabels is pairs that are no labels, each in another way.
func badLabels() [][]api.Pair {
	return [][]api.Pair{
		nil,
		{},
		labels("", "1"),
		labels("a", ""),
		labels("", ""),
		labels("A", "1"),
		labels("a1", "1"),
		labels("a", "\x7F"),
		labels("a", "1\n"),
		labels("b", "2", "a", "1"),
		labels("a", "1", "a", "1"),
		labels("a", "1", "a", "2"),
		labels("a", "1", "b", ""),
		labels("a", "1", "", "2"),
		labels("a", "1", "b", "1", "c", "1", "d", "1", "e", "1", "f", "1", "g", "1", "h", "1", "i", "1"),
		labels(long+"ee", "1"),
		labels("a", full+"4"),
	}
}

// badRecords is records that are wrong, whatever a head has, and in what way.
func badRecords() []struct {
	r api.Record
	e api.Errno
} {
	type bad = struct {
		r api.Record
		e api.Errno
	}
	var row []api.Sample
	for i := range 40 {
		row = append(row, of(numbered(1000+i), 100))
	}
	l := []bad{
		{api.Record{}, api.ErrKind},
		{api.Record{Kind: 3}, api.ErrKind},
		{api.Record{Kind: -1, Samples: row[:1]}, api.ErrKind},
		{api.Record{Kind: 1<<32 + 1, Samples: row[:1]}, api.ErrKind},
		{api.Record{Samples: row[:1]}, api.ErrKind},
		{api.Record{Samples: []api.Sample{at(first, 1)}, From: 1}, api.ErrKind},
		{api.Record{Kind: 3, From: 2, To: 1}, api.ErrKind},
		{api.Record{Kind: 1, Samples: row[:1], From: 1}, api.ErrField},
		{api.Record{Kind: 1, Samples: row[:1], To: 1}, api.ErrField},
		{api.Record{Kind: 1, Samples: row[:1], Matches: list(some("a"))}, api.ErrField},
		{api.Record{Kind: 1, Samples: []api.Sample{at(first, 1)}, To: 1}, api.ErrField},
		{api.Record{Kind: 1, Samples: row, To: 1}, api.ErrField},
		{api.Record{Kind: 2, Samples: row[:1]}, api.ErrField},
		{api.Record{Kind: 2, Samples: row[:1], From: 2, To: 1}, api.ErrField},
		{commit(), api.ErrRange},
		{commit(row[:33]...), api.ErrRange},
		{commit(slices.Repeat([]api.Sample{at(5, 7)}, 33)...), api.ErrRange},
		{commit(make([]api.Sample, 33)...), api.ErrRange},
		{cut(2, 1), api.ErrOrder},
		{cut(last, first), api.ErrOrder},
		{cut(1, 0, list(equal("a", "1"))...), api.ErrOrder},
		{cut(0, 1, make([]api.Match, 9)...), api.ErrLong},
		{cut(0, 1, api.Match{Kind: 5, Name: "a"}), api.ErrKind},
		{cut(0, 1, some("a"), api.Match{}), api.ErrKind},
		{cut(0, 1, equal("A", "1")), api.ErrField},
		{cut(1, 0, equal("A", "1")), api.ErrField},
		{cut(0, 1, api.Match{Kind: api.MAny, Name: "a", Value: "1"}), api.ErrField},
	}
	for _, pairs := range badLabels() {
		x := of(pairs, 100)
		l = append(l, bad{commit(x), api.ErrLabel}, bad{commit(row[0], x), api.ErrLabel}, bad{commit(x, at(first, 1)), api.ErrLabel}, bad{commit(at(first, 1), x), api.ErrLabel})
	}
	return l
}

// Promise 13.1: record.Check's errors, each of them ahead of ErrOld and ErrFull; nothing happens.
func TestCheckErrors(t *testing.T) {
	small := headOf(t, commit(at(5, 7)), commit(of(labels("b", "1"), 9)))
	great := crowd(t, 256)
	must(t, great, cut(first, 2))
	for _, x := range badRecords() {
		if e := plainCheck(x.r); e != x.e {
			t.Fatalf("%s: by another way %v; want %v", brief(x.r), e, x.e)
		}
		wantRefused(t, New(), x.r, x.e)
		wantRefused(t, small, x.r, x.e)
		wantRefused(t, great, x.r, x.e)
	}
	wantQuery(t, small, nil, first, last, api.Series{Labels: labels("a", "1"), Points: []api.Point{{T: 5, V: 7}}}, api.Series{Labels: labels("b", "1"), Points: points(9)})
	wantCounts(t, small, 2, 2)
	wantCounts(t, great, 256, 253)
}

// crowd is a head of so many series, each with a point at its number.
func crowd(t *testing.T, count int) *Head {
	t.Helper()
	h := New()
	for n := range count {
		must(t, h, commit(of(numbered(n), int64(n))))
	}
	return h
}

// edges is times at which something may change, rising.
func edges() []int64 {
	l := []int64{first, first + 1, -1, 0, 1, last - 1, last}
	for shift := 1; shift < 63; shift++ {
		for near := int64(-1); near <= 1; near++ {
			l = append(l, 1<<shift+near, -1<<shift+near)
		}
	}
	slices.Sort(l)
	return slices.Compact(l)
}

// Promise 13.1: any time may be a series' first one; behind it ErrOld is told of each that is not above it.
func TestOld(t *testing.T) {
	for _, a := range edges() {
		h := headOf(t, commit(at(a, 1)))
		wantPoints(t, h, []api.Point{{T: a, V: 1}})
		for _, b := range edges() {
			r := commit(at(b, 2))
			if b <= a {
				wantRefused(t, h, r, api.ErrOld)
				continue
			}
			if e := h.Try(r); e != api.OK {
				t.Errorf("Try of %d behind %d: %v", b, a, e)
			}
			c := h.Copy()
			must(t, c, r)
			wantPoints(t, c, []api.Point{{T: a, V: 1}, {T: b, V: 2}})
		}
		for _, near := range []int64{a - 1, a, a + 1} {
			if near > a != (h.Try(commit(at(near, 1))) == api.OK) {
				t.Errorf("%d behind %d: %v", near, a, h.Try(commit(at(near, 1))))
			}
		}
	}
}

// Promise 13.1: the greatest time is each series' own: labels that differ in anything are another series.
func TestOldOwn(t *testing.T) {
	all := [][]api.Pair{
		labels("a", "1"), labels("a", "2"), labels("b", "1"), labels("a", "11"), labels("aa", "1"), labels("a", "1", "b", "1"), labels("a", "1", "b", "2"),
		labels("a", "1b"), labels("a", "1", "b", "1", "c", "1"), labels("ab", "c"), labels("a", "bc"), labels("_", " "), labels(long+"e", full), labels(long+"f", full),
	}
	for i, own := range all {
		h := headOf(t, commit(of(own, 100)))
		wantRefused(t, h, commit(of(own, 100)), api.ErrOld)
		for j, other := range all {
			if i == j {
				continue
			}
			wantLast(t, h, other, 0, false)
			c := h.Copy()
			must(t, c, commit(of(other, -100)))
			wantLast(t, c, own, 100, true)
			wantLast(t, c, other, -100, true)
			wantCounts(t, c, 2, 2)
			wantRefused(t, c, commit(of(other, -100)), api.ErrOld)
			wantRefused(t, c, commit(of(own, -99)), api.ErrOld)
		}
	}
}

// Promise 13.1: samples ahead in the commit count: at each place a time that is not above one ahead is ErrOld, and none of the others is put.
func TestOldInCommit(t *testing.T) {
	for count := 2; count <= 32; count++ {
		for ahead := range count - 1 {
			for behind := ahead + 1; behind < count; behind++ {
				var l []api.Sample
				for n := range count {
					l = append(l, of(numbered(n), 50))
				}
				for _, time := range []int64{50, 49, -7, first} {
					l[behind] = of(numbered(ahead), time)
					wantRefused(t, New(), commit(l...), api.ErrOld)
				}
				l[behind] = of(numbered(ahead), 51)
				wantCounts(t, headOf(t, commit(l...)), count-1, count)
			}
		}
	}
	for count := 1; count <= 32; count++ {
		var l []api.Sample
		var want []api.Point
		for n := range count {
			l = append(l, at(int64(n*n), uint64(n)))
			want = append(want, api.Point{T: int64(n * n), V: uint64(n)})
		}
		h := headOf(t, commit(l...))
		wantPoints(t, h, want)
		wantLast(t, h, labels("a", "1"), int64((count-1)*(count-1)), true)
		if count > 1 {
			slices.Reverse(l)
			wantRefused(t, New(), commit(l...), api.ErrOld)
		}
	}
}

// Promise 13.1: what the head has counts at each place of a commit, also for a series that the commit has had already.
func TestOldAtEachPlace(t *testing.T) {
	h := headOf(t, commit(at(50, 1)))
	for place := range 32 {
		var l []api.Sample
		for n := range 32 {
			l = append(l, of(numbered(n), 1))
		}
		for _, time := range []int64{first, 0, 49, 50} {
			l[place] = at(time, 2)
			wantRefused(t, h, commit(l...), api.ErrOld)
		}
		l[place] = at(51, 2)
		must(t, h.Copy(), commit(l...))
	}
	wantRefused(t, h, commit(at(51, 1), at(51, 1)), api.ErrOld)
	wantRefused(t, h, commit(at(60, 1), at(55, 1)), api.ErrOld)
	wantRefused(t, h, commit(at(60, 1), at(70, 1), at(65, 1)), api.ErrOld)
	wantRefused(t, h, commit(at(49, 1), at(51, 1)), api.ErrOld)
	must(t, h, commit(at(60, 2), of(labels("b", "1"), 7), at(61, 3)))
	wantQuery(t, h, nil, first, last, api.Series{Labels: labels("a", "1"), Points: []api.Point{{T: 50, V: 1}, {T: 60, V: 2}, {T: 61, V: 3}}}, api.Series{Labels: labels("b", "1"), Points: points(7)})
}

// Promise 13.1: 256 series are not too many; one more is ErrFull, be it in a commit of its own or among others.
func TestFull(t *testing.T) {
	for _, count := range []int{223, 224, 225, 254, 255, 256} {
		h := crowd(t, count)
		wantCounts(t, h, count, count)
		for size := 1; size <= 32; size++ {
			var made, among []api.Sample
			for n := range size {
				made = append(made, of(numbered(1000+n), first))
				among = append(among, of(numbered(1000+n), 1000), of(numbered(1000+n), 1001), of(numbered(n), 1000))
			}
			among = among[:min(len(among), 32)]
			fits(t, h, commit(made...), count+size)
			fits(t, h, commit(among...), count+min(size, 11))
		}
	}
}

// fits applies a commit to a copy of a head: it would then have so many series.
func fits(t *testing.T, h *Head, r api.Record, count int) {
	t.Helper()
	if count > 256 {
		wantRefused(t, h, r, api.ErrFull)
		return
	}
	c := h.Copy()
	must(t, c, r)
	if n, _ := c.Counts(); n != count {
		t.Errorf("%s: %d series, want %d", brief(r), n, count)
	}
}

// Promise 13.1: a head that is full takes points of the series that it has, deletes make no room in it, and ErrOld stands ahead of ErrFull.
func TestFullStays(t *testing.T) {
	h := crowd(t, 256)
	other := of(labels("other", "1"), 9)
	for range 3 {
		wantRefused(t, h, commit(other), api.ErrFull)
		wantRefused(t, h, commit(other, other), api.ErrOld)
		wantRefused(t, h, commit(other, of(numbered(255), 255)), api.ErrOld)
		wantRefused(t, h, commit(of(numbered(0), 0), other), api.ErrOld)
		wantRefused(t, h, commit(of(numbered(0), last), other), api.ErrFull)
		wantRefused(t, h, commit(other, of(numbered(0), last)), api.ErrFull)
		must(t, h, cut(first, last))
		wantCounts(t, h, 256, 0)
	}
	for n := range 256 {
		must(t, h, commit(of(numbered(n), 300)))
	}
	wantCounts(t, h, 256, 256)
}

// Promise 13.1: a delete takes away the points from From to To, both with these, and no others.
func TestDeleteSpans(t *testing.T) {
	times := []int64{first, -1 << 40, -9, -1, 0, 1, 5, 6, 7, 100, 1 << 40, last}
	asked := append([]int64{first + 1, -10, -8, 2, 4, 8, 99, 101, last - 1}, times...)
	h := New()
	for _, time := range times {
		must(t, h, commit(of(labels("a", "1"), time)))
	}
	for _, from := range asked {
		for _, to := range asked {
			c := h.Copy()
			if from > to {
				wantRefused(t, c, cut(from, to), api.ErrOrder)
				continue
			}
			must(t, c, cut(from, to))
			var want []int64
			for _, time := range times {
				if time < from || time > to {
					want = append(want, time)
				}
			}
			wantPoints(t, c, points(want...))
			wantCounts(t, c, 1, len(want))
			wantLast(t, c, labels("a", "1"), last, true)
			wantTop(t, c, last, true)
			must(t, c, cut(from, to))
			wantPoints(t, c, points(want...))
		}
	}
}

// townLabels is labels of some series, in their order.
func townLabels() [][]api.Pair {
	return [][]api.Pair{
		labels("a", "1"), labels("a", "1", "b", "1"), labels("a", "1", "b", "2"), labels("a", "1", "c", "1"), labels("a", "11"), labels("a", "2"), labels("a", "2", "b", "1"),
		labels("b", "1"), labels("b", "2", "c", "x y"), labels("c", "1"),
	}
}

// townRecords is commits of those series, each of which has points at 1 to 5 then.
func townRecords() []api.Record {
	var l []api.Record
	for time := int64(1); time <= 5; time++ {
		for _, own := range townLabels() {
			l = append(l, commit(of(own, time)))
		}
	}
	return l
}

// town is a head of those series, and their labels.
func town(t *testing.T) (*Head, [][]api.Pair) {
	t.Helper()
	return headOf(t, townRecords()...), townLabels()
}

// asks is matchers of all kinds, and which of the town's series they ask for.
func asks() []struct {
	l    []api.Match
	want []int
} {
	return []struct {
		l    []api.Match
		want []int
	}{
		{nil, []int{0, 1, 2, 3, 4, 5, 6, 7, 8, 9}},
		{list(), []int{0, 1, 2, 3, 4, 5, 6, 7, 8, 9}},
		{list(equal("a", "1")), []int{0, 1, 2, 3}},
		{list(equal("a", "11")), []int{4}},
		{list(equal("a", "")), []int{7, 8, 9}},
		{list(equal("a", "3")), nil},
		{list(equal("d", "")), []int{0, 1, 2, 3, 4, 5, 6, 7, 8, 9}},
		{list(not("a", "1")), []int{4, 5, 6, 7, 8, 9}},
		{list(not("a", "")), []int{0, 1, 2, 3, 4, 5, 6}},
		{list(prefix("a", "1")), []int{0, 1, 2, 3, 4}},
		{list(prefix("a", "")), []int{0, 1, 2, 3, 4, 5, 6, 7, 8, 9}},
		{list(prefix("c", "x ")), []int{8}},
		{list(some("b")), []int{1, 2, 6, 7, 8}},
		{list(some("d")), nil},
		{list(equal("a", "1"), not("b", "2")), []int{0, 1, 3}},
		{list(equal("a", "1"), equal("b", "1")), []int{1}},
		{list(equal("a", "1"), equal("a", "2")), nil},
		{list(some("b"), some("c")), []int{8}},
		{list(some("a"), equal("b", ""), equal("c", "")), []int{0, 4, 5}},
		{slices.Repeat(list(some("c")), 8), []int{3, 8, 9}},
	}
}

// Promise 13.1: a delete takes points away from the series that its matchers ask for, and from no others.
func TestDeleteMatches(t *testing.T) {
	h, all := town(t)
	for _, x := range asks() {
		c := h.Copy()
		must(t, c, cut(2, 4, x.l...))
		var want []api.Series
		for i, l := range all {
			left := points(1, 2, 3, 4, 5)
			if slices.Contains(x.want, i) {
				left = points(1, 5)
			}
			want = append(want, api.Series{Labels: l, Points: left})
		}
		wantQuery(t, c, nil, first, last, want...)
		wantCounts(t, c, len(all), 5*len(all)-3*len(x.want))
		must(t, c, cut(first, last, x.l...))
		wantQuery(t, c, x.l, first, last)
		wantCounts(t, c, len(all), 5*(len(all)-len(x.want)))
		for i, l := range all {
			wantLast(t, c, l, 5, true)
			if (len(c.Query(nil, first, last)) == 0) != (len(x.want) == len(all)) {
				t.Errorf("%v: series %d is told, or none", x.l, i)
			}
		}
	}
}

// Promise 13.1: greatest times stay behind deletes, one after the other, wherever the points are.
func TestOldBehindDelete(t *testing.T) {
	for _, r := range []api.Record{cut(first, last), cut(5, 5), cut(first, 5), cut(5, last), cut(5, 5, equal("a", "1")), cut(4, 6, some("a")), cut(first, 4), cut(6, last), cut(5, 5, equal("a", "2"))} {
		h := headOf(t, commit(at(3, 1), at(5, 7)), r, r)
		wantLast(t, h, labels("a", "1"), 5, true)
		wantTop(t, h, 5, true)
		for _, time := range []int64{first, 0, 3, 4, 5} {
			wantRefused(t, h, commit(at(time, 7)), api.ErrOld)
		}
		must(t, h, commit(at(6, 8)), cut(6, 6))
		wantRefused(t, h, commit(at(6, 8)), api.ErrOld)
		must(t, h, commit(at(7, 8)))
		wantQuery(t, h, nil, 6, 9, api.Series{Labels: labels("a", "1"), Points: []api.Point{{T: 7, V: 8}}})
		n, _ := h.Counts()
		if n != 1 {
			t.Errorf("%d series", n)
		}
	}
}

// Promise 13.1: Try changes nothing, of records that may be applied, too.
func TestTryAlone(t *testing.T) {
	h, _ := town(t)
	ahead := h.Copy()
	for _, r := range []api.Record{commit(of(labels("z", "1"), 1)), commit(of(labels("a", "1"), 6), of(labels("a", "1"), 7)), cut(first, last), cut(3, 3, some("a"))} {
		for range 3 {
			if e := h.Try(r); e != api.OK {
				t.Errorf("Try of %s: %v", brief(r), e)
			}
		}
		wantSame(t, h, ahead)
		wantLast(t, h, labels("z", "1"), 0, false)
	}
}

// Promise 13.1: each value is kept as it is, whatever pattern it has.
func TestValues(t *testing.T) {
	h := New()
	var want []api.Point
	for i, v := range edges() {
		must(t, h, commit(at(int64(i), uint64(v))))
		want = append(want, api.Point{T: int64(i), V: uint64(v)})
	}
	wantPoints(t, h, want)
}

// Promise 13.2: a query tells the points from one time to another one, both with these; where there are none, the series is not told, and none is where from is above to.
func TestQuerySpans(t *testing.T) {
	times := []int64{first, -1 << 40, -9, -1, 0, 1, 5, 6, 7, 100, 1 << 40, last}
	asked := append([]int64{first + 1, -10, -8, 2, 4, 8, 99, 101, last - 1}, times...)
	h := New()
	for _, time := range times {
		must(t, h, commit(of(labels("a", "1"), time)))
	}
	must(t, h, commit(of(labels("b", "1"), 6)))
	for _, from := range asked {
		for _, to := range asked {
			var inside []int64
			for _, time := range times {
				if time >= from && time <= to {
					inside = append(inside, time)
				}
			}
			var want []api.Series
			if len(inside) > 0 {
				want = append(want, api.Series{Labels: labels("a", "1"), Points: points(inside...)})
			}
			if from <= 6 && to >= 6 {
				want = append(want, api.Series{Labels: labels("b", "1"), Points: points(6)})
			}
			wantQuery(t, h, nil, from, to, want...)
		}
	}
}

// Promise 13.2: which series are asked for, written out; matchers that are wrong ask for none.
func TestQueryMatches(t *testing.T) {
	h, all := town(t)
	for _, x := range asks() {
		var want []api.Series
		for _, i := range x.want {
			want = append(want, api.Series{Labels: all[i], Points: points(2, 3)})
		}
		wantQuery(t, h, x.l, 2, 3, want...)
	}
	for _, l := range [][]api.Match{
		{{}}, {{Kind: 5, Name: "a"}}, {{Kind: -1, Name: "a"}}, {equal("A", "1")}, {equal("", "")}, {not("A", "")}, {prefix("a", "\x7F")}, {not("a", "\x00")},
		{{Kind: api.MAny, Name: "a", Value: "1"}}, {some("a"), {}}, {not("z", "1"), not("z", full+"4")}, slices.Repeat(list(some("a")), 9), make([]api.Match, 9), slices.Repeat(list(some("a")), 100_000),
	} {
		wantQuery(t, h, l, first, last)
	}
}

// Promise 13.2: series are told in the order of their labels, however they came; that is not the order of their bytes.
func TestQueryOrder(t *testing.T) {
	rising := [][]api.Pair{
		labels("_", "z"), labels("a", " "), labels("a", "1"), labels("a", "1", "b", "1"), labels("a", "1", "b", "2"), labels("a", "1", "b", "2", "c", "0"), labels("a", "1", "ba", "0"), labels("a", "1", "c", "1"),
		labels("a", "10"), labels("a", "2"), labels("a_", "1"), labels("aa", "1"), labels("ab", "0"), labels("b", "1"), labels("b", "1", "c", "1", "d", "1", "e", "1", "f", "1", "g", "1", "h", "1", "i", "1"), labels("b", "2"), labels("z", "~"),
	}
	var want []api.Series
	for i, l := range rising {
		want = append(want, api.Series{Labels: l, Points: points(int64(i))})
	}
	for seed := range 200 {
		order := make([]int, len(rising))
		for i := range order {
			j := int(mixed(seed*20+i) % uint64(i+1))
			order[i], order[j] = order[j], i
		}
		h := New()
		for _, i := range order {
			must(t, h, commit(of(rising[i], int64(i))))
		}
		wantQuery(t, h, nil, first, last, want...)
		wantQuery(t, h, list(some("a")), first, last, want[1:10]...)
		wantQuery(t, h, nil, 3, 5, want[3:6]...)
	}
}

// Promise 13.2: with as many series as there may be, with the longest labels, the order is the same at each call.
func TestQueryFullHead(t *testing.T) {
	h := New()
	var want []api.Series
	for n := range 256 {
		var l []api.Pair
		for i, sign := range "_abcdxyz" {
			value := full
			if i == n%8 {
				value = fmt.Sprintf("%s%03d", full[:61], n)
			}
			l = append(l, api.Pair{Name: long + string(sign), Value: value})
		}
		must(t, h, commit(of(l, int64(n))))
		want = append(want, api.Series{Labels: l, Points: points(int64(n))})
	}
	slices.SortFunc(want, func(a, b api.Series) int { return slices.Compare(flat(a.Labels), flat(b.Labels)) })
	for range 20 {
		wantQuery(t, h, nil, first, last, want...)
		wantQuery(t, h.Copy(), nil, first, last, want...)
	}
}

// Promise 13.2: Last of each series, and of labels of which there is none; of pairs that are no labels there is none.
func TestLast(t *testing.T) {
	h, all := town(t)
	for i, l := range all {
		wantLast(t, h, l, 5, true)
		must(t, h, commit(of(l, int64(10+i))))
		wantLast(t, h, l, int64(10+i), true)
		wantLast(t, h, slices.Clone(l), int64(10+i), true)
		for _, other := range [][]api.Pair{append(slices.Clone(l), api.Pair{Name: "zz", Value: "1"}), append(labels("_", "1"), l...), l[:len(l)-1], labels(l[0].Value, l[0].Name)} {
			if !slices.ContainsFunc(all, func(l []api.Pair) bool { return slices.Equal(l, other) }) {
				wantLast(t, h, other, 0, false)
			}
		}
	}
	for i, l := range all {
		wantLast(t, h, l, int64(10+i), true)
	}
	for _, l := range badLabels() {
		wantLast(t, h, l, 0, false)
		wantLast(t, New(), l, 0, false)
	}
	wantLast(t, h, labels("b", "1", "a", "1"), 0, false)
	wantLast(t, h, make([]api.Pair, 100_000), 0, false)
	wantLast(t, h, labels("a", strings.Repeat("1", 1<<20)), 0, false)
	for _, time := range edges() {
		wantLast(t, headOf(t, commit(at(time, 1))), labels("a", "1"), time, true)
	}
}

// Promise 13.2: Top is the greatest of all series' greatest times, be their points there or not, and wherever it stands.
func TestTop(t *testing.T) {
	for _, time := range edges() {
		h := headOf(t, commit(at(time, 1)))
		wantTop(t, h, time, true)
		must(t, h, cut(first, last))
		wantTop(t, h, time, true)
	}
	for place := range 20 {
		h := New()
		for n := range 20 {
			must(t, h, commit(of(numbered(n), int64(n)-100)))
		}
		wantTop(t, h, -81, true)
		must(t, h, commit(of(numbered(place), -50)))
		wantTop(t, h, -50, true)
		must(t, h, cut(-60, -40))
		wantTop(t, h, -50, true)
		must(t, h, commit(of(labels("z", "1"), first)))
		wantTop(t, h, -50, true)
		must(t, h, commit(of(labels("z", "1"), -50)), commit(of(labels("z", "1"), 0)))
		wantTop(t, h, 0, true)
	}
}

// Promise 13.2: Counts tells all series, also those whose points are gone, and the points that are there.
func TestCounts(t *testing.T) {
	h := New()
	for n := 1; n <= 30; n++ {
		must(t, h, commit(of(numbered(n), 1), of(numbered(n), 2), of(numbered(n), 3)))
		wantCounts(t, h, n, 3*n)
	}
	must(t, h, cut(2, 2))
	wantCounts(t, h, 30, 60)
	must(t, h, cut(first, last, equal("n", "7")))
	wantCounts(t, h, 30, 58)
	wantRefused(t, h, commit(of(numbered(31), 1), of(numbered(1), 1)), api.ErrOld)
	wantCounts(t, h, 30, 58)
	must(t, h, cut(first, last))
	wantCounts(t, h, 30, 0)
	must(t, h, commit(of(numbered(7), 4)))
	wantCounts(t, h, 30, 1)
}

// Promise 13.2: a copy has the same, and what happens to one of them does not happen to the other one.
func TestCopy(t *testing.T) {
	for size := range 40 {
		h := New()
		for n := range size {
			must(t, h, commit(at(int64(n), uint64(n)), of(numbered(n), int64(n))))
		}
		must(t, h, cut(2, 5))
		c := h.Copy()
		again := c.Copy()
		wantSame(t, c, h)
		wantSame(t, again, h)
		// Points that are put behind the same ones must not stand in one place.
		must(t, h, commit(at(100, 1)))
		must(t, c, commit(at(100, 2)))
		must(t, again, commit(at(101, 3)))
		for _, x := range []struct {
			h *Head
			p api.Point
		}{{h, api.Point{T: 100, V: 1}}, {c, api.Point{T: 100, V: 2}}, {again, api.Point{T: 101, V: 3}}} {
			wantQuery(t, x.h, list(some("a")), 50, last, api.Series{Labels: labels("a", "1"), Points: []api.Point{x.p}})
			wantLast(t, x.h, labels("a", "1"), x.p.T, true)
		}
	}
	h, all := town(t)
	as := h.Copy()
	for _, r := range []api.Record{cut(first, last), cut(1, 3, some("a")), commit(of(labels("z", "1"), 9)), commit(of(all[0], 6))} {
		c := h.Copy()
		must(t, c, r)
		wantSame(t, h, as)
		wantLast(t, h, labels("z", "1"), 0, false)
		d := c.Copy()
		must(t, d, commit(of(all[0], 100)), cut(5, 5))
		wantSame(t, h, as)
		wantSame(t, c, headOf(t, append(townRecords(), r)...))
	}
	// The other way round: what happens to the first one.
	must(t, h, cut(first, last), commit(of(labels("z", "1"), 9)))
	wantCounts(t, as, len(all), 5*len(all))
	wantTop(t, as, 5, true)
}

// Promise 13.2: a copy of a head whose points are gone knows its greatest times still.
func TestCopyOfEmptied(t *testing.T) {
	c := headOf(t, commit(at(5, 7)), cut(first, 9)).Copy()
	wantPoints(t, c, nil)
	wantCounts(t, c, 1, 0)
	wantTop(t, c, 5, true)
	wantRefused(t, c, commit(at(5, 7)), api.ErrOld)
	must(t, c, commit(at(6, 7)))
	wantPoints(t, c, []api.Point{{T: 6, V: 7}})
}

// R4: what is handed in is not changed, what lies behind its end neither, and is not kept.
func TestHandedIn(t *testing.T) {
	pairs := labels("a", "1", "b", "2", "c", "3")
	samples := []api.Sample{of(pairs[:1], 5), of(pairs[:2], 6), of(labels("spare", "1"), 7)}
	matches := list(some("a"), not("b", "3"), equal("spare", "1"))
	savedPairs, savedMatches := slices.Clone(pairs), slices.Clone(matches)
	h := headOf(t, commit(samples[:2]...))
	must(t, h, cut(0, 1, matches[:2]...))
	h.Query(matches[:2], first, last)
	h.Last(pairs[:2])
	if !slices.Equal(pairs, savedPairs) || !slices.Equal(matches, savedMatches) || samples[2].T != 7 || samples[0].T != 5 || len(samples[1].Labels) != 2 {
		t.Error("what was handed in has been changed")
	}
	want := []api.Series{{Labels: labels("a", "1"), Points: points(5)}, {Labels: labels("a", "1", "b", "2"), Points: points(6)}}
	pairs[0], pairs[1] = api.Pair{Name: "x", Value: "9"}, api.Pair{}
	clear(samples)
	clear(matches)
	wantQuery(t, h, nil, first, last, want...)
	wantLast(t, h, labels("a", "1"), 5, true)
	wantLast(t, h, labels("x", "9"), 0, false)
	wantQuery(t, h.Copy(), list(some("a")), first, last, want...)
	wantRefused(t, h, commit(of(labels("a", "1"), 5)), api.ErrOld)
}

// R4: what is handed out shares nothing with the head, with another answer, with another list of the same one.
func TestHandedOut(t *testing.T) {
	h, all := town(t)
	c := h.Copy()
	as := h.Copy()
	for range 2 {
		told := h.Query(nil, first, last)
		part := h.Query(nil, 2, 3)
		for i := range told {
			clear(told[i].Labels)
			clear(told[i].Points)
			_ = append(told[i].Labels, api.Pair{Name: "x", Value: "9"})
			_ = append(told[i].Points[:1], points(7, 8, 9)...)
			_ = append(told[i].Points, points(7, 8, 9)...)
			_ = append(part[i].Points[:0:cap(part[i].Points)], slices.Repeat(points(7), cap(part[i].Points))...)
			_ = append(part[i].Labels[:0:cap(part[i].Labels)], slices.Repeat(labels("x", "9"), cap(part[i].Labels))...)
			for j := i + 1; j < len(told); j++ {
				if !slices.Equal(told[j].Labels, all[j]) || len(told[j].Points) != 5 || told[j].Points[0].T != 1 {
					t.Fatalf("series %d has been changed with series %d", j, i)
				}
			}
		}
		wantSame(t, h, as)
		wantSame(t, c, as)
	}
	must(t, h, commit(of(all[0], 6)))
	wantQuery(t, h, nil, 6, 6, api.Series{Labels: all[0], Points: points(6)})
	// An answer stays as it was, whatever happens behind it.
	told := h.Query(list(equal("b", "1"), equal("a", "2")), first, last)
	must(t, h, cut(2, 4), commit(of(all[6], 9)), cut(first, last))
	if !same(told, []api.Series{{Labels: all[6], Points: points(1, 2, 3, 4, 5)}}) {
		t.Errorf("an answer has been changed: %v", told)
	}
}

// R3: a list that is empty may be nil or not.
func TestEmptyLists(t *testing.T) {
	h := headOf(t, api.Record{Kind: api.RCommit, Samples: []api.Sample{at(5, 7)}, Matches: []api.Match{}})
	wantQuery(t, h, []api.Match{}, first, last, api.Series{Labels: labels("a", "1"), Points: []api.Point{{T: 5, V: 7}}})
	wantLast(t, h, []api.Pair{}, 0, false)
	must(t, h, api.Record{Kind: api.RDelete, Samples: []api.Sample{}, Matches: []api.Match{}, From: 5, To: 5})
	wantPoints(t, h, nil)
}

// Promises 13.1 and 13.2: a series of a great many points, put, asked for and taken away.
func TestManyPoints(t *testing.T) {
	const count = 200_000
	h := New()
	for n := 0; n < count; n += 32 {
		var l []api.Sample
		for i := range 32 {
			l = append(l, of(labels("a", "1"), int64(n+i)*2))
		}
		must(t, h, commit(l...))
	}
	wantCounts(t, h, 1, count)
	wantTop(t, h, 2*count-2, true)
	for _, n := range []int64{0, 1, 2, 63, 64, 65, 1000, count, 2*count - 3, 2*count - 2, 2*count - 1} {
		var want []api.Series
		if n%2 == 0 {
			want = append(want, api.Series{Labels: labels("a", "1"), Points: points(n)})
		}
		wantQuery(t, h, nil, n, n, want...)
	}
	must(t, h, cut(10, 2*count-11))
	wantPoints(t, h, points(0, 2, 4, 6, 8, 2*count-10, 2*count-8, 2*count-6, 2*count-4, 2*count-2))
}

// anyLabels is labels of a few.
func anyLabels(c uint64) []api.Pair {
	l := labels("a", fmt.Sprint(c%3), "b", fmt.Sprint(c>>4%2), "c", "x")
	return l[c>>8%2 : 1+c>>8%2+c>>12%2]
}

// anyTime is a time that is often near.
func anyTime(c uint64, near int64) int64 {
	switch c % 40 {
	case 0:
		return int64(c)
	case 1:
		return first
	case 2:
		return last
	}
	return near + int64(c>>8%16)
}

// anyMatches is a few matchers, some of which are wrong.
func anyMatches(c uint64) []api.Match {
	var l []api.Match
	for range c % 3 {
		c = mixed(int(c % (1 << 62)))
		m := api.Match{Kind: 1 + int(c%4), Name: string("abcd"[c>>4%4])}
		if m.Kind != api.MAny {
			m.Value = []string{"", "0", "1", "2", "x"}[c>>8%5]
		}
		if c>>16%32 == 0 {
			m = api.Match{Kind: int(c >> 20 % 6), Name: "A"}
		}
		l = append(l, m)
	}
	return l
}

// anyRecord is a record that may be applied, or not; near is about which times it has.
func anyRecord(seed int, near int64) api.Record {
	c := mixed(seed)
	switch {
	case c%50 == 0:
		bad := badRecords()
		return bad[c>>8%uint64(len(bad))].r
	case c%4 == 0:
		from, to := anyTime(mixed(seed+1), near-20), anyTime(mixed(seed+2), near-10)
		if c>>8%8 != 0 {
			from, to = min(from, to), max(from, to)
		}
		return cut(from, to, anyMatches(c>>12)...)
	}
	r := commit()
	for i := range 1 + c>>8%4 {
		d := mixed(seed + 1000 + int(i))
		r.Samples = append(r.Samples, api.Sample{Labels: anyLabels(d >> 20), T: anyTime(d>>30, near+int64(i)*4), V: d})
	}
	return r
}

// Promises 13.1 to 13.3: histories of any records, each answer against another way.
func TestIsPlain(t *testing.T) {
	var seen [20]int
	for seed := range 120 {
		h, p := New(), &plain{}
		for i := range 60 {
			seen[wantApply(t, h, p, anyRecord(seed*10_000+i*50, int64(i*6)))]++
			c := mixed(seed*100 + i)
			from, to := anyTime(c, int64(i*6)-30), anyTime(mixed(int(c>>2)), int64(i*6)-15)
			wantQuery(t, h, anyMatches(c), from, to, p.query(anyMatches(c), from, to)...)
		}
	}
	for _, e := range []api.Errno{api.OK, api.ErrKind, api.ErrField, api.ErrOrder, api.ErrOld} {
		if seen[e] < 20 {
			t.Errorf("%v was told %d times alone", e, seen[e])
		}
	}
}

// Promise 13.3: a history makes one head, however often it is gone through; records that are refused make no difference, and neither does what is asked, tried and copied in between.
func TestOneHistory(t *testing.T) {
	for seed := range 300 {
		busy := New()
		var history []api.Record
		for i := range 80 {
			r := anyRecord(seed*10_000+i*50, int64(i*6))
			busy.Query(r.Matches, r.From, r.To)
			busy.Try(r)
			busy.Copy().Apply(cut(first, last))
			if busy.Apply(r) == api.OK {
				history = append(history, r)
			}
			if i%16 == 0 {
				busy = busy.Copy()
			}
		}
		if len(history) == 80 {
			t.Fatal("no record was refused")
		}
		wantSame(t, busy, headOf(t, history...))
		wantSame(t, headOf(t, history...), busy)
	}
}

// Promise 13.3: what a delete took away no query tells, till new points come.
func TestGone(t *testing.T) {
	h, all := town(t)
	must(t, h, cut(2, 4, equal("a", "1")))
	for range 3 {
		for _, x := range asks() {
			for from := int64(0); from < 7; from++ {
				for _, s := range h.Query(x.l, from, 4) {
					if s.Labels[0] == (api.Pair{Name: "a", Value: "1"}) && slices.ContainsFunc(s.Points, func(p api.Point) bool { return p.T >= 2 }) {
						t.Fatalf("%v is told", s)
					}
				}
			}
		}
		// Commits to others, further deletes and what is refused bring nothing back.
		top, _ := h.Top()
		must(t, h, commit(of(all[9], top+1)), cut(3, 3))
		wantRefused(t, h, commit(of(all[0], 3)), api.ErrOld)
		h = h.Copy()
	}
	must(t, h, commit(of(all[0], 6)))
	wantQuery(t, h, list(equal("a", "1"), equal("b", ""), equal("c", "")), 2, 9, api.Series{Labels: all[0], Points: points(5, 6)})
}

// Promise 13.3: of two heads that tell the same of all, further records make the same.
func TestGoesOn(t *testing.T) {
	for seed := range 60 {
		a := New()
		for i := range 30 {
			a.Apply(anyRecord(seed*10_000+i*50, int64(i*6)))
		}
		b := a.Copy()
		for i := 30; i < 60; i++ {
			r := anyRecord(seed*10_000+i*50, int64(i*6))
			if e, f := a.Apply(r), b.Apply(r); e != f {
				t.Fatalf("%s: %v, %v", brief(r), e, f)
			}
		}
		wantSame(t, a, b)
	}
}

// FuzzHead: any bytes as records, three by three, against another way.
func FuzzHead(f *testing.F) {
	f.Add("", int64(0), int64(9))
	f.Add("\x00\x05\x07\x00\x05\x07\x80\x00\x09\x00\x05\x07\x00\x06\x07", int64(0), int64(9))
	f.Add("\x01\x7f\x01\x02\x81\x01\x91\x00\xff\xc2\xff\x00", int64(-5), int64(200))
	f.Fuzz(func(t *testing.T, s string, from, to int64) {
		h, p := New(), &plain{}
		for i := 0; i+3 <= min(len(s), 120); i += 3 {
			kind, a, b := s[i], int64(s[i+1]), int64(int8(s[i+2]))
			r := commit(of(anyLabels(uint64(kind)*273), a), of(anyLabels(uint64(kind>>2)*273), a+b))
			if kind >= 0x80 {
				r = cut(a-200, a+b, anyMatches(uint64(kind))...)
			}
			wantApply(t, h, p, r)
		}
		for _, l := range [][]api.Match{nil, list(some("a")), list(equal("a", "1")), list(not("b", "0"))} {
			wantQuery(t, h, l, from, to, p.query(l, from, to)...)
		}
		for _, name := range slices.Sorted(maps.Keys(p.names())) {
			greatest, ok := p.last(p.names()[name])
			wantLast(t, h, p.names()[name], greatest, ok)
		}
	})
}

// A commit makes a series, a delete takes points away, and the greatest time stays.
func Example() {
	l := []api.Pair{{Name: "a", Value: "1"}}
	h := New()
	fmt.Println(h.Apply(api.Record{Kind: api.RCommit, Samples: []api.Sample{{Labels: l, T: 3, V: 6}, {Labels: l, T: 5, V: 7}}}) == api.OK)
	fmt.Println(h.Query(nil, 4, 9))
	fmt.Println(h.Apply(api.Record{Kind: api.RDelete, To: 9}) == api.OK)
	fmt.Println(h.Query(nil, 0, 9))
	fmt.Println(h.Last(l))
	fmt.Println(h.Counts())
	fmt.Println(h.Try(api.Record{Kind: api.RCommit, Samples: []api.Sample{{Labels: l, T: 5}}}))
	// Output:
	// true
	// [{[{a 1}] [{5 7}]}]
	// true
	// []
	// 5 true
	// 1 0
	// error 14
}
