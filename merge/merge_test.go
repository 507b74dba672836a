package merge

import (
	"math"
	"slices"
	"testing"

	"barograph/api"
	"barograph/block"
)

// The chapter's example.
func TestExample(t *testing.T) {
	a := labels("a", "1")
	one, e := block.Of(1, records(commit(of(a, 5))))
	two, f := block.Of(2, records(cut(first, 9), commit(of(a, 12))))
	if e != api.OK || f != api.OK {
		t.Fatal(e, f)
	}
	l := blocks(one, two)
	wantAll(t, l, told(a, 12))
	wantJoin(t, l, first, row(a, 12))
	b, _ := Join(l, first)
	if b.First != 1 || b.To != 3 || len(b.Rows) != 1 || b.Rows[0].Last != 12 || len(b.Rows[0].Points) != 1 {
		t.Errorf("Join: %s", brief(b))
	}
}

// numbers is blocks with numbers of first and last records that stand by turns.
func numbers(l ...int) []block.Block {
	var all []block.Block
	for i := 0; i+1 < len(l); i += 2 {
		all = append(all, block.Block{First: l[i], To: l[i+1]})
	}
	return all
}

// Promise 16.1: the first block begins with the record 1, each further one behind the one ahead; no block follows, and one alone that begins so.
func TestFollowNumbers(t *testing.T) {
	wantFollow(t, nil, api.OK)
	wantFollow(t, blocks(), api.OK)
	for _, l := range [][]block.Block{
		numbers(1, 1),
		numbers(1, 2),
		numbers(1, most),
		numbers(1, 1, 2, 2),
		numbers(1, 1, 2, most),
		numbers(1, most-1, most, most),
		numbers(1, 7, 8, 8, 9, 20),
		numbers(1, 255, 256, 256, 257, 65536, 65537, 70000),
	} {
		wantFollow(t, l, api.OK)
		// Each block with another First, or the one ahead with another To.
		for i := range l {
			for _, by := range []int{-2, -1, 1, 2} {
				bad := slices.Clone(l)
				bad[i].First += by
				if bad[i].First >= 1 && bad[i].First <= bad[i].To {
					wantFollow(t, bad, api.ErrOrder)
				}
				bad = slices.Clone(l)
				bad[i].To += by
				if want := api.ErrOrder; bad[i].To >= bad[i].First && bad[i].To <= most {
					if i+1 == len(l) {
						want = api.OK
					}
					wantFollow(t, bad, want)
				}
			}
			wantFollow(t, slices.Delete(slices.Clone(l), i, i+1), map[bool]api.Errno{true: api.OK, false: api.ErrOrder}[i+1 == len(l)])
			wantFollow(t, slices.Insert(slices.Clone(l), i, l[i]), api.ErrOrder)
		}
	}
	for _, l := range [][]block.Block{
		numbers(2, 2),
		numbers(most, most),
		numbers(2, 2, 1, 1),
		numbers(2, 2, 3, 3),
		numbers(1, 1, 1, 1),
		numbers(1, 2, 2, 3),
		numbers(1, 5, 1, 5),
		numbers(1, 1, 3, 3),
		numbers(1, most, 1, 1),
		numbers(1, most, most, most),
		numbers(1, 1, 2, 2, 1, 3),
		numbers(1, 1, 2, 2, 2, 2),
		numbers(1, 1, 2, 2, 4, 4),
	} {
		wantFollow(t, l, api.ErrOrder)
	}
}

// Promise 16.1: as many blocks as one likes.
func TestFollowMany(t *testing.T) {
	for _, count := range []int{15, 16, 17, 300} {
		var l []block.Block
		for i := range count {
			l = append(l, with(row(labels("a", "1"), int64(i)), row(numbered(i), int64(-i))))
		}
		l = chain(l...)
		wantFollow(t, l, api.OK)
		// A point that is old is found, however far ahead the block is.
		l[count-1].Rows = rowsOf(row(numbered(0), 0))
		wantFollow(t, l, api.ErrOrder)
		l[count-1].Rows = rowsOf(row(numbered(0), 1))
		wantFollow(t, l, api.OK)
		l[count-1].First++
		l[count-1].To++
		wantFollow(t, l, api.ErrOrder)
	}
}

// Promises 16.1 and 16.2: what is in each of as many blocks as one likes is told, and each one's delete takes away.
func TestManyBlocks(t *testing.T) {
	a, b := labels("a", "1"), labels("b", "1")
	for _, count := range []int{15, 16, 17, 100} {
		var l []block.Block
		var times, left []int64
		for i := range count {
			// A delete takes the point at the time of the block ahead away, of every third block.
			dels := records(cut(int64(i-1), int64(i-1), some("b")))
			if i%3 > 0 {
				dels = nil
			}
			if times = append(times, int64(i)); i%3 != 2 || i == count-1 {
				left = append(left, int64(i))
			}
			l = append(l, cutting(dels, row(a, int64(i)), row(b, int64(i))))
		}
		wantAll(t, chain(l...), told(a, times...), told(b, left...))
		wantJoin(t, chain(l...), first, row(a, times...), block.Row{Labels: b, Last: int64(count - 1), Points: points(left...)})
	}
}

// badBlocks is blocks that are not right, each with another fault, and its error. Its numbers, where they are right, are to be given.
func badBlocks() []struct {
	b block.Block
	e api.Errno
} {
	a := labels("a", "1")
	return []struct {
		b block.Block
		e api.Errno
	}{
		{block.Block{First: 0, To: 5}, api.ErrRange},
		{block.Block{First: 5, To: 4}, api.ErrRange},
		{block.Block{First: 1, To: most + 1}, api.ErrRange},
		{block.Block{First: -1, To: -1}, api.ErrRange},
		{block.Block{First: math.MinInt64, To: math.MaxInt64}, api.ErrRange},
		{block.Block{First: math.MaxInt64, To: math.MaxInt64}, api.ErrRange},
		{with(row(nil, 1)), api.ErrLabel},
		{with(row(labels("A", "1"), 1)), api.ErrLabel},
		{with(row(labels("a", "1", "a", "2"))), api.ErrLabel},
		{with(row(a, 2, 1)), api.ErrOrder},
		{with(row(a, 1, 1)), api.ErrOrder},
		{with(block.Row{Labels: a, Last: 4, Points: points(5)}), api.ErrOrder},
		{with(row(labels("b", "1")), row(a)), api.ErrOrder},
		{with(row(a), row(a)), api.ErrOrder},
		{cutting(records(cut(2, 1))), api.ErrKind},
		{cutting(records(cut(1, 2), commit(of(a, 1)))), api.ErrKind},
		{cutting(records(api.Record{})), api.ErrKind},
		{cutting(records(cut(1, 2, equal("A", "1")))), api.ErrKind},
	}
}

// Promise 16.1: a block's own error, wherever it stands, and whatever stands behind it; ahead of all that is not in order.
func TestFollowBlocks(t *testing.T) {
	good := with(row(labels("c", "1"), 1, 2))
	for _, x := range badBlocks() {
		wantFollow(t, blocks(x.b), map[bool]api.Errno{true: api.ErrRange, false: x.e}[x.b.First == 0])
		for place := range 4 {
			l := []block.Block{good, with(row(labels("c", "1"), 3)), with(row(labels("c", "1"), 4)), with(row(labels("c", "1"), 5))}
			l = chain(l...)
			l[place] = x.b
			if x.e != api.ErrRange {
				l[place].First, l[place].To = place+1, place+1
			}
			wantFollow(t, l, x.e)
			for other := range 4 {
				if other == place {
					continue
				}
				bad := slices.Clone(l)
				bad[other].First, bad[other].To = 9, 9
				wantFollow(t, bad, x.e)
				bad = slices.Clone(l)
				bad[other].Rows = rowsOf(row(labels("c", "1"), first))
				wantFollow(t, bad, x.e)
				for _, y := range badBlocks() {
					bad[other] = y.b
					if y.e != api.ErrRange {
						bad[other].First, bad[other].To = other+1, other+1
					}
					want := x.e
					if other < place {
						want = y.e
					}
					wantFollow(t, bad, want)
				}
			}
		}
	}
}

// Promise 16.1: a series' points are above its greatest time in each block ahead, be that one's points there still or not, and not in the one ahead alone.
func TestFollowPoints(t *testing.T) {
	a, b := labels("a", "1"), labels("a", "1", "b", "1")
	edges := []int64{first, first + 1, -1, 0, 1, 5, last - 1, last}
	for _, greatest := range edges {
		for _, time := range edges {
			want := api.ErrOrder
			if time > greatest {
				want = api.OK
			}
			emptied := block.Row{Labels: a, Last: greatest}
			for _, ahead := range []block.Row{emptied, row(a, greatest), {Labels: a, Last: greatest, Points: points(first)}} {
				wantFollow(t, chain(with(ahead), with(row(a, time))), want)
				wantFollow(t, chain(with(ahead), with(), with(row(a, time))), want)
				wantFollow(t, chain(with(), with(ahead, row(b, last)), with(row(b)), with(row(a, time), row(numbered(1), first))), want)
				wantFollow(t, chain(cutting(records(cut(first, last))), with(ahead), cutting(records(cut(first, last)), row(a, time))), want)
				// Neither another series, nor a row without points, nor a block behind is asked.
				wantFollow(t, chain(with(ahead), with(row(b, time))), api.OK)
				wantFollow(t, chain(with(row(b, greatest)), with(row(a, time))), api.OK)
				wantFollow(t, chain(with(ahead), with(block.Row{Labels: a, Last: time})), api.OK)
				wantFollow(t, chain(with(ahead, row(b, time))), api.OK)
			}
		}
	}
	// A row without points with a lower time makes none lower.
	low := block.Row{Labels: a, Last: 3}
	for _, l := range [][]block.Block{
		chain(with(row(a, 5)), with(low)),
		chain(with(row(a, 2)), with(row(a, 5)), with(low), with(low)),
		chain(with(low), with(row(a, 5)), with(low)),
	} {
		wantFollow(t, l, api.OK)
		wantFollow(t, chain(append(l, with(row(a, 6)))...), api.OK)
		wantFollow(t, chain(append(l, with(row(a, 5)))...), api.ErrOrder)
		wantFollow(t, chain(append(l, with(row(a, 4)))...), api.ErrOrder)
		wantFollow(t, chain(append(l, with(row(a, 4, 6)))...), api.ErrOrder)
		wantFollow(t, chain(append(l, with(row(a, 4, 5, 6, 7)))...), api.ErrOrder)
	}
}

// Promise 16.1: at each place of the rows.
func TestFollowPlaces(t *testing.T) {
	all := inOrder()
	for i := range all {
		var l [3]block.Block
		for _, pairs := range all {
			l[0].Rows = append(l[0].Rows, row(pairs, 1, 2))
			l[1].Rows = append(l[1].Rows, block.Row{Labels: pairs, Last: 1})
			l[2].Rows = append(l[2].Rows, row(pairs, 3, 4))
		}
		wantFollow(t, chain(l[:]...), api.OK)
		l[2].Rows[i] = row(all[i], 2, 3, 4)
		wantFollow(t, chain(l[:]...), api.ErrOrder)
		l[1].Rows = slices.Delete(l[1].Rows, i, i+1)
		wantFollow(t, chain(l[:]...), api.ErrOrder)
		l[0].Rows = slices.Delete(l[0].Rows, i, i+1)
		wantFollow(t, chain(l[:]...), api.OK)
	}
}

// town is blocks whose series have the times 1 to 6, a block for two of them; the labels of all.
func town() ([]block.Block, [][]api.Pair) {
	all := inOrder()
	var l [3]block.Block
	for i := range l {
		for _, pairs := range all {
			l[i].Rows = append(l[i].Rows, row(pairs, int64(2*i+1), int64(2*i+2)))
		}
	}
	return chain(l[:]...), all
}

// asks is matchers of all kinds.
func asks() [][]api.Match {
	return [][]api.Match{
		nil,
		list(),
		list(equal("a", "1")),
		list(equal("a", "")),
		list(equal("a", "3")),
		list(equal("d", "")),
		list(not("a", "1")),
		list(not("a", "")),
		list(prefix("a", "1")),
		list(prefix("a", "")),
		list(some("b")),
		list(some("d")),
		list(equal("a", "1"), not("b", "2")),
		list(equal("a", "1"), equal("a", "2")),
		list(some("a"), some("b"), some("c")),
		list(some(long+"a"), equal(long+"z", full)),
		slices.Repeat(list(some("b")), 8),
	}
}

// wrongAsks is matchers that are wrong.
func wrongAsks() [][]api.Match {
	return [][]api.Match{
		list(equal("A", "1")),
		list(equal("", "")),
		list(not("a", "\n")),
		list(some("a"), api.Match{Kind: 5, Name: "a"}),
		list(api.Match{}),
		list(api.Match{Kind: api.MAny, Name: "a", Value: "1"}),
		list(not(long+"aa", "1")),
		list(not("a", full+"5")),
		slices.Repeat(list(some("a")), 9),
	}
}

// Promise 16.1: series that are asked for, in the order of their labels, with all their points.
func TestQueryAsks(t *testing.T) {
	l, all := town()
	for _, ask := range asks() {
		var want []api.Series
		for _, pairs := range all {
			if plainIs(ask, pairs) {
				want = append(want, told(pairs, 1, 2, 3, 4, 5, 6))
			}
		}
		wantQuery(t, l, nil, ask, first, last, want)
	}
	for _, ask := range wrongAsks() {
		wantQuery(t, l, nil, ask, first, last, nil)
		wantQuery(t, l, records(cut(1, 2)), ask, first, last, nil)
	}
	if got := Query(l, nil, list(some("b")), first, last); len(got) != 5 {
		t.Errorf("%d series have b; want 5", len(got))
	}
}

// Promise 16.1: from and to are within, wherever they stand; series without any points there are not told.
func TestQuerySpans(t *testing.T) {
	a, b, c := labels("a", "1"), labels("b", "1"), labels("c", "1")
	l := chain(with(row(a, -4, -2), row(b, 0)), with(row(a, 0, 2), block.Row{Labels: c, Last: 9}), with(row(a, 4), row(b, 5)))
	times := []int64{first, -5, -4, -3, -2, -1, 0, 1, 2, 3, 4, 5, 6, last}
	for _, from := range times {
		for _, to := range times {
			var want []api.Series
			for _, s := range []api.Series{told(a, -4, -2, 0, 2, 4), told(b, 0, 5)} {
				if s.Points = within(s.Points, from, to); len(s.Points) > 0 {
					want = append(want, s)
				}
			}
			wantQuery(t, l, nil, nil, from, to, want)
		}
	}
	wide := chain(with(row(a, first, first+1)), with(row(a, 0)), with(row(a, last-1, last)))
	wantAll(t, wide, told(a, first, first+1, 0, last-1, last))
	wantQuery(t, wide, nil, nil, first, first, []api.Series{told(a, first)})
	wantQuery(t, wide, nil, nil, last, last, []api.Series{told(a, last)})
	wantQuery(t, wide, nil, nil, first+1, last-1, []api.Series{told(a, first+1, 0, last-1)})
	wantQuery(t, wide, nil, nil, last, first, nil)
	wantQuery(t, wide, nil, nil, 1, 0, nil)
}

// Promise 16.1: no blocks, and blocks of nothing, tell nothing.
func TestQueryNothing(t *testing.T) {
	for _, l := range [][]block.Block{nil, blocks(), chain(with()), chain(with(), with(), cutting(records(cut(1, 2)))), chain(with(row(labels("a", "1"))), with(block.Row{Labels: labels("b", "1"), Last: last}))} {
		wantAll(t, l)
		wantQuery(t, l, records(cut(first, last), cut(1, 2, some("a"))), list(some("a")), -9, 9, nil)
	}
}

// Promise 16.1: a delete takes away what stands in blocks ahead of its own, and nothing else.
func TestQueryDeletesOfBlocks(t *testing.T) {
	l, all := town()
	for place := range l {
		for _, ask := range asks() {
			for from := int64(0); from <= 7; from++ {
				for to := from; to <= 7; to++ {
					bad := slices.Clone(l)
					bad[place].Dels = records(cut(from, to, ask...))
					var want []api.Series
					var rows []block.Row
					for _, pairs := range all {
						left := points(1, 2, 3, 4, 5, 6)
						if plainIs(ask, pairs) {
							left = slices.DeleteFunc(left, func(p api.Point) bool { return p.T >= from && p.T <= to && p.T <= int64(2*place) })
						}
						if rows = append(rows, block.Row{Labels: pairs, Last: 6, Points: left}); len(left) > 0 {
							want = append(want, api.Series{Labels: pairs, Points: left})
						}
					}
					wantAll(t, bad, want...)
					wantJoin(t, bad, first, rows...)
				}
			}
		}
	}
}

// Promise 16.1: deletes behind all blocks take away from all of them.
func TestQueryDeletesBehind(t *testing.T) {
	l, all := town()
	for _, ask := range asks() {
		for from := int64(0); from <= 7; from++ {
			for to := from; to <= 7; to++ {
				var want []api.Series
				for _, pairs := range all {
					s := told(pairs, 1, 2, 3, 4, 5, 6)
					if plainIs(ask, pairs) {
						s.Points = slices.DeleteFunc(s.Points, func(p api.Point) bool { return p.T >= from && p.T <= to })
					}
					if len(s.Points) > 0 {
						want = append(want, s)
					}
				}
				wantQuery(t, l, records(cut(from, to, ask...)), nil, first, last, want)
			}
		}
	}
	a := labels("a", "1")
	small := chain(with(row(a, first, -1)), with(row(a, 0, 1, last)))
	for _, x := range []struct {
		dels []api.Record
		want []int64
	}{
		{nil, []int64{first, -1, 0, 1, last}},
		{records(), []int64{first, -1, 0, 1, last}},
		{records(cut(first, first)), []int64{-1, 0, 1, last}},
		{records(cut(last, last)), []int64{first, -1, 0, 1}},
		{records(cut(first+1, last-1)), []int64{first, last}},
		{records(cut(0, 0), cut(-1, -1)), []int64{first, 1, last}},
		{records(cut(0, 0), cut(0, 0), cut(2, last-1)), []int64{first, -1, 1, last}},
		{records(cut(-1, 0, some("b")), cut(1, 1, some("a"))), []int64{first, -1, 0, last}},
		{records(cut(first, 0, equal("a", "2")), cut(first, 0, not("a", "2")), cut(1, 1)), []int64{last}},
	} {
		wantQuery(t, small, x.dels, nil, first, last, []api.Series{told(a, x.want...)})
	}
	wantQuery(t, small, records(cut(first, last)), nil, first, last, nil)
	wantQuery(t, small, records(cut(first, 0), cut(1, last)), nil, first, last, nil)
}

// Promise 16.1: several deletes, in one block and in several; what comes behind them stays.
func TestQueryDeletesOneByOne(t *testing.T) {
	a, b := labels("a", "1"), labels("b", "1")
	l := chain(
		cutting(records(cut(first, last)), row(a, 1, 2, 3), row(b, 1, 2, 3)),
		cutting(records(cut(2, 2), cut(first, 4, equal("b", "1"))), row(a, 4, 5), row(b, 4, 5)),
		cutting(nil, row(a, 6), row(b, 6)),
		cutting(records(cut(5, 6, some("a")), cut(4, 4, some("b")), cut(7, 9)), row(a, 7), row(b, 8)),
	)
	wantAll(t, l, told(a, 1, 3, 4, 7), told(b, 5, 6, 8))
	wantJoin(t, l, first, row(a, 1, 3, 4, 7), row(b, 5, 6, 8))
	wantQuery(t, l, records(cut(5, 7)), nil, first, last, []api.Series{told(a, 1, 3, 4), told(b, 8)})
	wantAll(t, l[:3], told(a, 1, 3, 4, 5, 6), told(b, 4, 5, 6))
	wantAll(t, l[:2], told(a, 1, 3, 4, 5), told(b, 4, 5))
	wantAll(t, l[:1], told(a, 1, 2, 3), told(b, 1, 2, 3))
}

// Promise 16.2: Follow's error, or ErrRange of none; a block alone is told again, without its deletes.
func TestJoinErrors(t *testing.T) {
	for _, mark := range []int64{first, 0, last} {
		for _, l := range [][]block.Block{nil, blocks()} {
			if b, e := Join(l, mark); e != api.ErrRange || !sameBlock(b, block.Block{}) {
				t.Errorf("Join of none: %s, %v", brief(b), e)
			}
		}
		if b, e := Join(numbers(2, 2), mark); e != api.ErrOrder || !sameBlock(b, block.Block{}) {
			t.Errorf("Join of what does not follow: %s, %v", brief(b), e)
		}
		for _, x := range badBlocks() {
			if x.e != api.ErrRange {
				x.b.First, x.b.To = 1, 1
			}
			if b, e := Join(blocks(x.b), mark); e != x.e || !sameBlock(b, block.Block{}) {
				t.Errorf("Join of %s: %s, %v; want %v", brief(x.b), brief(b), e, x.e)
			}
		}
	}
	a := labels("a", "1")
	alone := block.Block{First: 1, To: 7, Rows: rowsOf(row(a, 1, 2)), Dels: records(cut(first, last))}
	wantJoin(t, blocks(alone), first, row(a, 1, 2))
	wantJoin(t, numbers(1, most), first)
	wantJoin(t, numbers(1, 3, 4, 9, 10, most), first)
}

// Promise 16.2: points at the mark stay, what is below it goes; rows stay, with their greatest times.
func TestJoinMarks(t *testing.T) {
	a, b, c := labels("a", "1"), labels("b", "1"), labels("c", "1")
	l := chain(
		with(row(a, first, -1), row(b, 2), block.Row{Labels: c, Last: 9}),
		cutting(records(cut(-1, 0)), row(a, 0, 1), block.Row{Labels: b, Last: 1}),
		with(row(a, last), row(b, 3)),
	)
	for _, mark := range []int64{first, first + 1, -2, -1, 0, 1, 2, 3, 4, last - 1, last} {
		rows := rowsOf(block.Row{Labels: a, Last: last, Points: within(points(first, 0, 1, last), mark, last)}, block.Row{Labels: b, Last: 3, Points: within(points(2, 3), mark, last)}, block.Row{Labels: c, Last: 9})
		wantJoin(t, l, mark, rows...)
	}
	wantJoin(t, chain(with(row(a, 1, 2))), 3, block.Row{Labels: a, Last: 2})
	wantJoin(t, chain(with(row(a, 1, 2))), 2, block.Row{Labels: a, Last: 2, Points: points(2)})
}

// Promise 16.2: a series' greatest time in any block, wherever it stands, at all ends of times.
func TestLasts(t *testing.T) {
	a, b := labels("a", "1"), labels("b", "1")
	times := []int64{first, first + 1, -1, 0, 1, last}
	for _, x := range times {
		for _, y := range times {
			for _, z := range times {
				l := chain(with(block.Row{Labels: a, Last: x}), with(row(b, 0)), with(block.Row{Labels: a, Last: y}, block.Row{Labels: b, Last: z}), with(block.Row{Labels: a, Last: z}))
				bPoints := block.Row{Labels: b, Last: max(0, z), Points: points(0)}
				wantJoin(t, l, first, block.Row{Labels: a, Last: max(x, y, z)}, bPoints)
			}
		}
	}
	if rows := Lasts(nil); len(rows) != 0 {
		t.Errorf("Lasts of none: %s", brief(rows))
	}
	if rows := Lasts(chain(with(), cutting(records(cut(1, 2))))); len(rows) != 0 {
		t.Errorf("Lasts of nothing: %s", brief(rows))
	}
	// What deletes take away has been there.
	wantJoin(t, chain(with(row(a, 5)), cutting(records(cut(first, last)))), first, block.Row{Labels: a, Last: 5})
}

// Promises 16.1 and 16.2: the order is the labels', in whichever block a series stands first, and not that of their bytes.
func TestOrder(t *testing.T) {
	all := inOrder()
	for seed := range 40 {
		var l [4]block.Block
		var rows []block.Row
		var want []api.Series
		for n, pairs := range all {
			at := mixed(seed*100+n) % 4
			l[at].Rows = append(l[at].Rows, row(pairs, int64(n)))
			rows, want = append(rows, row(pairs, int64(n))), append(want, told(pairs, int64(n)))
		}
		wantAll(t, chain(l[:]...), want...)
		wantJoin(t, chain(l[:]...), first, rows...)
	}
}

// Promises 16.1 and 16.2: far more series than a head has, and more points than a chunk.
func TestMany(t *testing.T) {
	const count, span = 600, 10_000
	var l [5]block.Block
	rows, want := make([]block.Row, count), make([]api.Series, 0, count)
	for n := range rows {
		rows[n].Labels = numbered(n)
		for i := range l {
			if (n+i)%5 == 0 {
				continue
			}
			var times []int64
			for j := range n % 90 {
				times = append(times, int64(i*span+j*10))
			}
			r := block.Row{Labels: numbered(n), Last: int64(i*span + n), Points: points(times...)}
			r.Last = max(r.Last, int64(i*span+n%90*10))
			l[i].Rows = append(l[i].Rows, r)
			rows[n].Last, rows[n].Points = r.Last, append(rows[n].Points, r.Points...)
		}
		if n%90 > 0 {
			want = append(want, api.Series{Labels: rows[n].Labels, Points: rows[n].Points})
		}
	}
	wantAll(t, chain(l[:]...), want...)
	wantJoin(t, chain(l[:]...), first, rows...)
}
