package merge

import (
	"fmt"
	"math"
	"slices"
	"testing"

	"barograph/api"
	"barograph/block"
	"barograph/head"
)

// anyLabels is labels of a few.
func anyLabels(c uint64) []api.Pair {
	l := labels("a", fmt.Sprint(c%3), "b", fmt.Sprint(c>>4%2), "c", "x")
	return l[c>>8%2 : 1+c>>8%2+c>>12%2]
}

// allLabels is all that anyLabels may be, each once, in their order.
func allLabels() [][]api.Pair {
	var all [][]api.Pair
	for n := range uint64(24) {
		all = append(all, anyLabels(n%3|n/3%2<<4|n/6%2<<8|n/12<<12))
	}
	slices.SortFunc(all, func(a, b []api.Pair) int { return slices.Compare(flat(a), flat(b)) })
	return slices.CompactFunc(all, slices.Equal[[]api.Pair])
}

// anyTime is a time that is near, or a greatest or least one now and then.
func anyTime(c uint64, near int64) int64 {
	switch c % 40 {
	case 0:
		return first
	case 1:
		return last
	}
	return near + int64(c>>8%16)
}

// anyMatches is a few matchers.
func anyMatches(c uint64) []api.Match {
	var l []api.Match
	for range c % 3 {
		c = mixed(int(c % (1 << 62)))
		m := api.Match{Kind: 1 + int(c%4), Name: string("abcd"[c>>4%4])}
		if m.Kind != api.MAny {
			m.Value = []string{"", "0", "1", "2", "x"}[c>>8%5]
		}
		l = append(l, m)
	}
	return l
}

// anyDelete is a delete that is right; near is about which times it is for.
func anyDelete(seed int, near int64) api.Record {
	from, to := anyTime(mixed(seed+1), near-20), anyTime(mixed(seed+2), near-12)
	return cut(min(from, to), max(from, to), anyMatches(mixed(seed+3))...)
}

// anyDeletes is a few deletes.
func anyDeletes(count uint64, seed int, near int64) []api.Record {
	var l []api.Record
	for i := range count {
		l = append(l, anyDelete(seed+int(i)*10, near))
	}
	return l
}

// anyRecord is a record that a head may take, or not.
func anyRecord(seed int, near int64) api.Record {
	if mixed(seed)%4 == 0 {
		return anyDelete(seed, near)
	}
	r := commit()
	for i := range 1 + mixed(seed)>>8%4 {
		d := mixed(seed + 1000 + int(i))
		r.Samples = append(r.Samples, api.Sample{Labels: anyLabels(d >> 20), T: near + int64(i), V: d})
	}
	return r
}

// anyHistory is records that a head takes, one by one, and that head.
func anyHistory(seed, count int) ([]api.Record, *head.Head) {
	var l []api.Record
	h := head.New()
	for i := 0; len(l) < count; i++ {
		if r := anyRecord(seed*100_000+i*50, int64(i*3)-20); h.Apply(r) == api.OK {
			l = append(l, r)
		}
	}
	return l, h
}

// cutUp is the blocks of a history's spans, which are cut behind those numbers of records.
func cutUp(t *testing.T, l []api.Record, behind ...int) []block.Block {
	t.Helper()
	var all []block.Block
	at := 0
	for _, end := range append(behind, len(l)) {
		if end > at {
			b, e := block.Of(at+1, l[at:end])
			if e != api.OK {
				t.Fatalf("Of the records from %d to %d: %v", at+1, end, e)
			}
			all, at = append(all, b), end
		}
	}
	return all
}

// wantHead holds all that blocks tell against a head, and against the block of a mark.
func wantHead(t *testing.T, l []block.Block, dels []api.Record, h *head.Head, ask []api.Match, from, to, mark int64) {
	t.Helper()
	wantQuery(t, l, dels, ask, from, to, h.Query(ask, from, to))
	wantQuery(t, l, dels, nil, first, last, h.Query(nil, first, last))
	joined, e := Join(l, mark)
	if e != api.OK {
		t.Fatalf("Join of %s: %v", brief(l), e)
	}
	wantJoin(t, l, mark, joined.Rows...)
	// From the mark on no difference is told.
	wantQuery(t, blocks(joined), dels, ask, max(from, mark), to, h.Query(ask, max(from, mark), to))
	wantQuery(t, blocks(joined), dels, nil, first, last, h.Query(nil, mark, last))
	wantQuery(t, blocks(joined), dels, ask, from, to, h.Query(ask, max(from, mark), to))
	rows := Lasts(l)
	if series, _ := h.Counts(); series != len(rows) {
		t.Errorf("Lasts of %s: %d rows; a head has %d series", brief(l), len(rows), series)
	}
	for _, r := range rows {
		if time, there := h.Last(r.Labels); !there || time != r.Last {
			t.Errorf("Lasts of %s: %v; a head has %d, %v", brief(l), r, time, there)
		}
	}
}

// Promise 16.3: a history's spans, wherever it is cut up, tell what a head of it tells; joined, too, from the mark on.
func TestHistoryEverywhere(t *testing.T) {
	for seed := range 12 {
		l, h := anyHistory(seed, 7)
		for places := range 1 << 6 {
			var behind []int
			for i := range 6 {
				if places>>i&1 == 1 {
					behind = append(behind, i+1)
				}
			}
			c := mixed(seed*100 + places)
			wantHead(t, cutUp(t, l, behind...), nil, h, anyMatches(c), anyTime(c>>4, -25), anyTime(c>>20, -10), anyTime(c>>40, -20))
		}
	}
}

// Promise 16.3: longer histories, with deletes behind all blocks.
func TestHistoryIsHead(t *testing.T) {
	for seed := range 300 {
		count := 5 + seed%60
		l, h := anyHistory(1000+seed, count)
		var behind []int
		for i := range seed % 9 {
			behind = append(behind, int(mixed(seed*10+i)%uint64(count)))
		}
		slices.Sort(behind)
		near := int64(count * 3 / 2)
		dels := anyDeletes(mixed(seed)%4, seed*1000, near)
		for _, d := range dels {
			if e := h.Apply(d); e != api.OK {
				t.Fatal(e)
			}
		}
		all := cutUp(t, l, behind...)
		for i := range 10 {
			c := mixed(seed*100 + i)
			wantHead(t, all, dels, h, anyMatches(c), anyTime(c>>4, near-20), anyTime(c>>20, near), anyTime(c>>40, near-10))
		}
	}
}

// Promise 16.3: it makes no difference how many of the first blocks are joined ahead of the others.
func TestJoinOfJoined(t *testing.T) {
	for seed := range 60 {
		l := anyChain(seed)
		for _, mark := range []int64{first, 0, 30, last} {
			want, _ := Join(l, mark)
			for count := range l {
				part, e := Join(l[:count+1], mark)
				if e != api.OK {
					t.Fatalf("Join of %s: %v", brief(l[:count+1]), e)
				}
				wantJoin(t, append(blocks(part), l[count+1:]...), mark, want.Rows...)
			}
		}
	}
}

// Promise 16.1: what is too old for a head of the history does not follow, unless it is gone again when its block ends.
func TestHistoryRefused(t *testing.T) {
	a := labels("a", "1")
	ahead := commit(of(a, 5))
	for _, x := range []struct {
		behind []api.Record
		want   api.Errno
	}{
		{records(commit(of(a, 6))), api.OK},
		{records(commit(of(a, 5))), api.ErrOrder},
		{records(commit(of(a, 4), of(a, 6))), api.ErrOrder},
		{records(cut(first, last), commit(of(a, 4))), api.ErrOrder},
		{records(commit(of(a, 4)), cut(4, 4)), api.OK},
		{records(commit(of(a, 4), of(a, 6)), cut(4, 4)), api.OK},
		{records(commit(of(labels("a", "1", "b", "1"), 4))), api.OK},
	} {
		one, e := block.Of(1, records(ahead))
		two, f := block.Of(2, x.behind)
		if e != api.OK || f != api.OK {
			t.Fatal(e, f)
		}
		wantFollow(t, blocks(one, two), x.want)
	}
}

// anyChain is blocks that follow one another, which need be of no history.
func anyChain(seed int) []block.Block {
	greatest := make(map[string]int64)
	var l []block.Block
	next := 1
	for i := range 1 + mixed(seed)%6 {
		c := mixed(seed*100 + int(i))
		b := block.Block{First: next, To: next + int(c%3), Dels: anyDeletes(c>>8%3, seed*1000+int(i)*50, int64(i)*10+10)}
		next = b.To + 1
		for n, pairs := range allLabels() {
			if d := mixed(seed*10_000 + int(i)*100 + n); d%3 > 0 {
				b.Rows = append(b.Rows, anyRow(pairs, greatest, d>>8))
			}
		}
		l = append(l, b)
	}
	return l
}

// anyRow is a row of labels behind their greatest times, which it makes greater.
func anyRow(pairs []api.Pair, greatest map[string]int64, c uint64) block.Row {
	key := fmt.Sprint(pairs)
	r := block.Row{Labels: pairs}
	time := greatest[key]
	for j := range c % 4 {
		time += 1 + int64(c>>8%4)*int64(j)
		r.Points = append(r.Points, api.Point{T: time, V: c + j})
	}
	if r.Last = time + int64(c>>16%3); len(r.Points) == 0 {
		r.Last = anyTime(c>>20, time-8)
		r.Last = min(r.Last, 1000)
	}
	greatest[key] = max(greatest[key], r.Last)
	return r
}

// Promises 16.1 and 16.2: any blocks that follow one another, against another way.
func TestIsPlain(t *testing.T) {
	for seed := range 1500 {
		l := anyChain(seed)
		wantFollow(t, l, api.OK)
		for i := range 6 {
			c := mixed(seed*100 + i)
			dels, ask := anyDeletes(c>>50%3, seed*700+i, 20), anyMatches(c)
			from, to, mark := anyTime(c>>4, 0), anyTime(c>>20, 15), anyTime(c>>30, 10)
			wantQuery(t, l, dels, ask, from, to, plainQuery(l, dels, ask, from, to))
			wantJoin(t, l, mark, plainJoin(l, mark).Rows...)
			joined, _ := Join(l, mark)
			wantQuery(t, blocks(joined), dels, ask, from, to, plainQuery(l, dels, ask, max(from, mark), to))
		}
	}
}

// spoilt is blocks of which one has been changed in one place, for better or worse.
func spoilt(l []block.Block, seed int) []block.Block {
	c := mixed(seed)
	i := int(c % uint64(len(l)))
	b := &l[i]
	by := int64(c>>10%9) - 4
	if len(b.Rows) == 0 || c>>4%16 == 0 {
		b.First += int(by)
		return l
	}
	r := &b.Rows[int(c>>20%uint64(len(b.Rows)))]
	switch {
	case c>>4%16 == 1:
		b.To += int(by)
	case c>>4%16 == 2:
		r.Labels = anyLabels(c >> 30)
	case c>>4%16 == 3:
		b.Dels = append(b.Dels, anyRecord(seed, 5))
	case c>>4%16 < 8 || len(r.Points) == 0:
		r.Last += by
	default:
		r.Points = slices.Clone(r.Points)
		r.Points[0].T += by
	}
	return l
}

// Promise 16.1: blocks of which one has been changed, against another way.
func TestFollowIsPlain(t *testing.T) {
	var seen [20]int
	for seed := range 20_000 {
		l := spoilt(anyChain(seed%400), seed)
		want := plainFollow(l)
		wantFollow(t, l, want)
		seen[want]++
	}
	for _, e := range []api.Errno{api.OK, api.ErrRange, api.ErrOrder, api.ErrKind} {
		if seen[e] < 100 {
			t.Errorf("%v was told %d times alone", e, seen[e])
		}
	}
}

// wrongBlocks is blocks that are not right in any way, and do not follow one another.
func wrongBlocks(seed int) []block.Block {
	var l []block.Block
	edges := []int{math.MinInt64, -1, 0, 1, most, most + 1, math.MaxInt64}
	for i := range mixed(seed) % 5 {
		c := mixed(seed*100 + int(i))
		b := block.Block{First: edges[c%7], To: edges[c>>4%7]}
		for j := range c >> 8 % 5 {
			d := mixed(seed*1000 + int(i)*50 + int(j))
			r := block.Row{Last: anyTime(d, 0)}
			r.Labels = [][]api.Pair{nil, labels("A", "1"), labels("b", "1", "a", "1"), labels("a", ""), anyLabels(d >> 20), make([]api.Pair, 20)}[d>>8%6]
			for k := range d >> 12 % 6 {
				r.Points = append(r.Points, api.Point{T: anyTime(mixed(int(d>>20+k)), 0)})
			}
			b.Rows = append(b.Rows, r)
			b.Dels = append(b.Dels, wrongRecord(d))
		}
		l = append(l, b)
	}
	return l
}

// wrongRecord is a record that is no delete that is right.
func wrongRecord(c uint64) api.Record {
	r := api.Record{Kind: int(c>>4%5) - 1, From: anyTime(c>>8, 0), To: anyTime(c>>16, 0)}
	switch c >> 30 % 4 {
	case 0:
		r.Matches = slices.Repeat(list(some("a")), 9)
	case 1:
		r.Matches = list(api.Match{Kind: -1, Name: "\xFF"})
	case 2:
		r.Samples = []api.Sample{of(nil, 1)}
	}
	return r
}

// R1: every call ends, and none panics, also of what does not follow and of deletes that are not right.
func TestEnds(t *testing.T) {
	for seed := range 3000 {
		l := wrongBlocks(seed)
		c := mixed(seed)
		dels := records(wrongRecord(c), anyDelete(seed, 0), wrongRecord(c>>3))
		Query(l, dels, nil, first, last)
		Query(l, dels, anyMatches(c), anyTime(c, 0), anyTime(c>>8, 0))
		for _, ask := range wrongAsks() {
			Query(l, dels, ask, anyTime(c, 0), anyTime(c>>8, 0))
		}
		Lasts(l)
		wantFollow(t, l, plainFollow(l))
		if b, e := Join(l, anyTime(c, 0)); e != api.OK && !sameBlock(b, block.Block{}) {
			t.Errorf("Join of %s: %s beside %v", brief(l), brief(b), e)
		}
	}
}

// withRoom is blocks, deletes and matchers, behind whose ends there is more in their rooms.
func withRoom() ([]block.Block, []api.Record, []api.Match) {
	pairs, p := labels("a", "1", "b", "2", "c", "3"), points(1, 2, 3, 4, 5, 6, 7, 8, 9)
	rows := rowsOf(block.Row{Labels: pairs[:1], Last: 4, Points: p[:4]}, block.Row{Labels: pairs[:2], Last: 5, Points: p[:2]}, block.Row{Labels: pairs, Last: 9, Points: p})
	matches := list(equal("a", "1"), some("b"), some("c"))
	dels := records(cut(2, 3, matches[:1]...), cut(1, 1, matches[:2]...), cut(first, last))
	dels[0].Samples = []api.Sample{of(pairs, 3)}[:0]
	l := chain(with(rows[:2]...), cutting(dels[:1], block.Row{Labels: pairs[:1], Last: 6, Points: p[4:6]}), cutting(dels[:2], rows[1:2:3]...), with(rows...))
	l[2].Rows = rowsOf(block.Row{Labels: pairs[:2], Last: 8, Points: p[6:8]})
	return l[:3], dels[:2], matches[:1]
}

// tellRoom is all that stands in the rooms of blocks, deletes and matchers.
func tellRoom(l []block.Block, dels []api.Record, ask []api.Match) string {
	s := fmt.Sprintln(ask[:cap(ask)])
	tell := func(dels []api.Record) {
		for _, d := range dels[:cap(dels)] {
			s += fmt.Sprintln(d.Kind, d.From, d.To, d.Samples[:cap(d.Samples)], d.Matches[:cap(d.Matches)])
		}
	}
	tell(dels)
	for _, b := range l[:cap(l)] {
		s += fmt.Sprintln(b.First, b.To)
		tell(b.Dels)
		for _, r := range b.Rows[:cap(b.Rows)] {
			s += fmt.Sprintln(r.Last, r.Labels[:cap(r.Labels)], r.Points[:cap(r.Points)])
		}
	}
	return s
}

// R4: what is handed in is not changed, and what lies behind its end neither.
func TestHandedIn(t *testing.T) {
	l, dels, ask := withRoom()
	as := tellRoom(l, dels, ask)
	a, b := labels("a", "1"), labels("a", "1", "b", "2")
	for range 3 {
		wantAll(t, l, told(a, 1, 4, 5, 6), told(b, 7, 8))
		wantJoin(t, l, 5, row(a, 5, 6), row(b, 7, 8))
		wantQuery(t, l, append(dels[:1:1], cut(5, 7)), ask, first, last, []api.Series{told(a, 1, 4), told(b, 8)})
		wantQuery(t, l, dels, ask, 2, 7, []api.Series{told(a, 4, 5, 6), told(b, 7)})
		wantFollow(t, blocks(l[1], l[0]), api.ErrOrder)
		if got := tellRoom(l, dels, ask); got != as {
			t.Fatalf("what was handed in has been changed: %s; want %s", got, as)
		}
	}
}

// spoilRows makes all that rows have something else, also behind their ends.
func spoilRows(l []block.Row) {
	for _, r := range l[:cap(l)] {
		clear(r.Labels[:cap(r.Labels)])
		clear(r.Points[:cap(r.Points)])
	}
	clear(l[:cap(l)])
}

// R4: what is handed out shares nothing with what was handed in, with another answer, with another list of the same one.
func TestHandedOut(t *testing.T) {
	l, dels, ask := withRoom()
	as := tellRoom(l, dels, ask)
	told, other := Query(l, nil, ask, first, last), Query(l, nil, ask, first, last)
	joined, e := Join(l, first)
	again, f := Join(l, first)
	lasts, more := Lasts(l), Lasts(l)
	if e != api.OK || f != api.OK || len(told) != 2 || len(joined.Rows) != 2 || len(lasts) != 2 {
		t.Fatal(told, joined, e, f, lasts)
	}
	for i, s := range told {
		clear(s.Labels[:cap(s.Labels)])
		clear(s.Points[:cap(s.Points)])
		if i == 0 && !sameSeries(told[1:], other[1:]) {
			t.Error("two series of an answer share memory")
		}
	}
	spoilRows(joined.Rows[:1:1])
	if !sameRow(joined.Rows[1], again.Rows[1]) {
		t.Error("two rows of a block share memory")
	}
	spoilRows(lasts[:1:1])
	if !sameRow(lasts[1], more[1]) {
		t.Error("two rows of Lasts share memory")
	}
	spoilRows(joined.Rows)
	spoilRows(lasts)
	if got := tellRoom(l, dels, ask); got != as {
		t.Errorf("an answer shares memory with what was handed in: %s; want %s", got, as)
	}
	if !sameSeries(other, plainQuery(l, nil, ask, first, last)) || !sameBlock(again, plainJoin(l, first)) || !sameRows(more, plainLasts(l)) {
		t.Errorf("answers share memory: %s, %s, %s", brief(other), brief(again), brief(more))
	}
	// Nothing is kept of what was handed in.
	for i := range l {
		spoilRows(l[i].Rows)
	}
	fresh, _, _ := withRoom()
	if !sameSeries(other, plainQuery(fresh, nil, ask, first, last)) || !sameBlock(again, plainJoin(fresh, first)) || !sameRows(more, plainLasts(fresh)) {
		t.Errorf("what was handed in is kept: %s, %s, %s", brief(other), brief(again), brief(more))
	}
}

// R4: of a block alone, too, of which nothing is to be put together.
func TestHandedOutAlone(t *testing.T) {
	l := chain(with(row(labels("a", "1"), 1, 2)))
	told := Query(l, nil, nil, first, last)
	joined, _ := Join(l, first)
	clear(told[0].Labels)
	clear(told[0].Points)
	spoilRows(joined.Rows)
	spoilRows(Lasts(l))
	wantJoin(t, l, first, row(labels("a", "1"), 1, 2))
}

// FuzzMerge: any bytes as a history, and where it is cut up, against a head and another way.
func FuzzMerge(f *testing.F) {
	for seed := range 20 {
		f.Add(seed, 10+seed, uint64(1)<<seed|5, int64(seed), int64(seed*2), int64(seed-3))
	}
	f.Fuzz(func(t *testing.T, seed, count int, places uint64, from, to, mark int64) {
		seed, count = int(uint32(seed))%1_000_000, int(uint32(count))%64
		l, h := anyHistory(seed, count+1)
		var behind []int
		for i := range count {
			if places>>i&1 == 1 {
				behind = append(behind, i+1)
			}
		}
		dels := anyDeletes(uint64(seed)%3, seed, int64(count))
		for _, d := range dels {
			h.Apply(d)
		}
		wantHead(t, cutUp(t, l, behind...), dels, h, anyMatches(mixed(seed)), from, to, mark)
		c := spoilt(anyChain(seed), count)
		wantFollow(t, c, plainFollow(c))
	})
}

// Two blocks, one behind the other: what they tell, and the block of both.
func Example() {
	commit := func(t int64) api.Record {
		return api.Record{Kind: api.RCommit, Samples: []api.Sample{{Labels: []api.Pair{{Name: "a", Value: "1"}}, T: t, V: 7}}}
	}
	one, _ := block.Of(1, []api.Record{commit(5)})
	two, _ := block.Of(2, []api.Record{{Kind: api.RDelete, To: 9}, commit(12)})
	l := []block.Block{one, two}
	fmt.Println(Follow(l), Follow(l[1:]))
	fmt.Println(Query(l, nil, nil, 0, 99), Query(l[:1], nil, nil, 0, 99))
	fmt.Println(Query(l, []api.Record{{Kind: api.RDelete, To: 12}}, nil, 0, 99))
	fmt.Println(Join(l, 0))
	fmt.Println(Join(l, 13))
	fmt.Println(Join(nil, 0))
	fmt.Println(Lasts(l))
	// Output:
	// error 0 error 9
	// [{[{a 1}] [{12 7}]}] [{[{a 1}] [{5 7}]}]
	// []
	// {1 3 [{[{a 1}] 12 [{12 7}]}] []} error 0
	// {1 3 [{[{a 1}] 12 []}] []} error 0
	// {0 0 [] []} error 2
	// [{[{a 1}] 12 []}]
}
