package postings

import (
	"fmt"
	"math"
	"regexp"
	"slices"
	"strings"
	"sync"
	"testing"

	"barograph/api"
	"barograph/match"
)

const (
	// full is as many signs as a value may have.
	full = "0123456789012345678901234567890123456789012345678901234567890123"
	// long is as many signs as a name may have.
	long = "abcdefghijklmnopqrstuvwxyz_abcde"
)

func equal(name, value string) api.Match {
	return api.Match{Kind: api.MEqual, Name: name, Value: value}
}
func not(name, value string) api.Match { return api.Match{Kind: api.MNot, Name: name, Value: value} }
func prefix(name, value string) api.Match {
	return api.Match{Kind: api.MPrefix, Name: name, Value: value}
}
func some(name string) api.Match { return api.Match{Kind: api.MAny, Name: name} }

// list is matchers in a row.
func list(l ...api.Match) []api.Match { return l }

// pair is a name and a value.
func pair(name, value string) api.Pair { return api.Pair{Name: name, Value: value} }

// row is pairs of names and values that stand by turns.
func row(texts ...string) []api.Pair {
	var l []api.Pair
	for i := 0; i+1 < len(texts); i += 2 {
		l = append(l, pair(texts[i], texts[i+1]))
	}
	return l
}

// table is rows, one under the other.
func table(rows ...[]api.Pair) [][]api.Pair { return rows }

var (
	plainName  = regexp.MustCompile(`\A[_abcdefghijklmnopqrstuvwxyz]{1,32}\z`)
	plainValue = regexp.MustCompile(`\A[\x20-\x7E]{0,64}\z`)
)

// plainWrong tells whether a matcher is wrong.
func plainWrong(m api.Match) bool {
	return m.Kind < 1 || m.Kind > 4 || !plainName.MatchString(m.Name) || !plainValue.MatchString(m.Value) || m.Kind == 4 && m.Value != ""
}

// plainIs tells by another way whether matchers hold of pairs.
func plainIs(l []api.Match, pairs []api.Pair) bool {
	if len(l) > 8 || slices.ContainsFunc(l, plainWrong) {
		return false
	}
	for _, m := range l {
		v := ""
		if i := slices.IndexFunc(pairs, func(p api.Pair) bool { return p.Name == m.Name }); i >= 0 {
			v = pairs[i].Value
		}
		if holds := [4]bool{v == m.Value, v != m.Value, strings.HasPrefix(v, m.Value), len(v) > 0}; !holds[m.Kind-1] {
			return false
		}
	}
	return true
}

// plainOf is the rows that have a pair by another way: each row is gone through.
func plainOf(rows [][]api.Pair, p api.Pair) []int {
	var l []int
	for n, pairs := range rows {
		if slices.Contains(pairs, p) {
			l = append(l, n)
		}
	}
	return l
}

// plainFind is the rows that are asked for by another way.
func plainFind(rows [][]api.Pair, l []api.Match) []int {
	var found []int
	for n, pairs := range rows {
		if plainIs(l, pairs) {
			found = append(found, n)
		}
	}
	return found
}

// wantOf asks an index for the rows that have a pair.
func wantOf(t *testing.T, x *Index, p api.Pair, want ...int) {
	t.Helper()
	wantList(t, fmt.Sprintf("Of(%.70q)", p), x.Of(p), want)
}

// tell is matchers as they are told beside a fault: those ahead, and how many there are.
func tell(l []api.Match) string {
	s := fmt.Sprintf("%d matchers", len(l))
	for _, m := range l[:min(len(l), 9)] {
		s += fmt.Sprintf(", {%d %.70q %.70q}", m.Kind, m.Name, m.Value)
	}
	return s
}

// wantFind asks an index for the rows of matchers, which stay as they were.
func wantFind(t *testing.T, x *Index, l []api.Match, want ...int) {
	t.Helper()
	as := slices.Clone(l)
	wantList(t, "Find of "+tell(l), x.Find(l), want)
	if !slices.Equal(l, as) {
		t.Errorf("matchers that were handed in have been changed: %s; they were %s", tell(l), tell(as))
	}
}

// asks is matchers of all kinds, for values that there are and others; some are wrong.
func asks(names, values []string) [][]api.Match {
	var ones []api.Match
	for _, name := range names {
		ones = append(ones, some(name))
		for _, value := range values {
			ones = append(ones, equal(name, value), not(name, value), prefix(name, value))
		}
	}
	l := [][]api.Match{nil}
	for i, m := range ones {
		l = append(l, list(m), list(m, m), list(m, ones[(i*7+3)%len(ones)], ones[(i*5+1)%len(ones)]))
		for _, other := range ones {
			l = append(l, list(m, other))
		}
	}
	return append(l, wrong()...)
}

// wrong is matchers that are wrong: alone, behind right ones, ahead of them, and too many.
func wrong() [][]api.Match {
	var l [][]api.Match
	for _, m := range []api.Match{
		{},
		{Kind: 5, Name: "a"},
		{Kind: -1, Name: "a", Value: "1"},
		{Kind: 0, Name: "a", Value: "1"},
		{Kind: math.MaxInt, Name: "a", Value: "1"},
		{Kind: math.MinInt, Name: "a", Value: "1"},
		{Kind: api.MEqual},
		{Kind: api.MEqual, Value: "1"},
		equal("A", "1"), not("A", "1"), prefix("A", ""), some("A"),
		equal("a1", ""), not("a b", ""), prefix("é", ""),
		equal(long+"f", ""), not(long+"f", "1"),
		equal("a", "\x1F"), not("a", "\x1F"), prefix("a", "\x7F"), equal("a", "é"),
		equal("a", full+"4"), not("a", full+"4"), prefix("a", full+"4"),
		{Kind: api.MAny, Name: "a", Value: "1"},
	} {
		l = append(l, list(m), list(equal("a", "1"), m), list(m, equal("a", "1")), list(some("a"), m, not("b", "2")))
	}
	for _, count := range []int{9, 10, 17, 1000} {
		l = append(l, slices.Repeat(list(equal("a", "1")), count), slices.Repeat(list(not("zz", "1")), count), slices.Repeat(list(prefix("a", "")), count))
	}
	return l
}

// wantIndex asks an index of rows for all pairs of names and values, and for all that asks has, against other ways.
func wantIndex(t *testing.T, rows [][]api.Pair, names, values []string) {
	t.Helper()
	x := New(rows)
	for _, name := range names {
		for _, value := range values {
			wantOf(t, x, pair(name, value), plainOf(rows, pair(name, value))...)
		}
	}
	for _, l := range asks(names, values) {
		wantFind(t, x, l, plainFind(rows, l)...)
	}
}

// town is some rows, as labels are.
func town() [][]api.Pair {
	return table(
		row("a", "1"),
		row("a", "2", "b", "1"),
		row("a", "1", "b", "1"),
		row("b", "1"),
		row("a", "12", "b", "2", "c", "1"),
		row("a", "1"),
		row("c", "1"),
		row("a", "1", "c", "2"),
	)
}

// The chapter's examples, of an index.
func TestIndexExamples(t *testing.T) {
	x := New(table(row("a", "1"), row("a", "2", "b", "1")))
	wantOf(t, x, pair("b", "1"), 1)
	wantFind(t, x, list(not("a", "1")), 1)
}

// Promise 14.2: Of, written out.
func TestOf(t *testing.T) {
	x := New(town())
	for range 2 {
		wantOf(t, x, pair("a", "1"), 0, 2, 5, 7)
		wantOf(t, x, pair("a", "2"), 1)
		wantOf(t, x, pair("a", "12"), 4)
		wantOf(t, x, pair("b", "1"), 1, 2, 3)
		wantOf(t, x, pair("b", "2"), 4)
		wantOf(t, x, pair("c", "1"), 4, 6)
		wantOf(t, x, pair("c", "2"), 7)
		for _, p := range row("a", "3", "a", "", "", "1", "", "", "1", "a", "d", "1", "b", "12", "A", "1", "a1", "", "", "a1", "a", "1 ", " a", "1", "a", "11", "aa", "1") {
			wantOf(t, x, p)
		}
	}
}

// Promise 14.2: Find, written out: each kind, a name that a row does not have, and several matchers.
func TestFind(t *testing.T) {
	x := New(town())
	for _, y := range []struct {
		l    []api.Match
		want []int
	}{
		{nil, nums(0, 1, 2, 3, 4, 5, 6, 7)},
		{list(equal("a", "1")), nums(0, 2, 5, 7)},
		{list(equal("a", "2")), nums(1)},
		{list(equal("a", "3")), nil},
		{list(equal("a", "")), nums(3, 6)},
		{list(equal("d", "")), nums(0, 1, 2, 3, 4, 5, 6, 7)},
		{list(equal("d", "1")), nil},
		{list(not("a", "1")), nums(1, 3, 4, 6)},
		{list(not("a", "")), nums(0, 1, 2, 4, 5, 7)},
		{list(not("d", "1")), nums(0, 1, 2, 3, 4, 5, 6, 7)},
		{list(not("d", "")), nil},
		{list(prefix("a", "1")), nums(0, 2, 4, 5, 7)},
		{list(prefix("a", "12")), nums(4)},
		{list(prefix("a", "")), nums(0, 1, 2, 3, 4, 5, 6, 7)},
		{list(prefix("a", "3")), nil},
		{list(some("a")), nums(0, 1, 2, 4, 5, 7)},
		{list(some("b")), nums(1, 2, 3, 4)},
		{list(some("d")), nil},
		{list(equal("a", "1"), equal("b", "1")), nums(2)},
		{list(equal("b", "1"), equal("a", "1")), nums(2)},
		{list(equal("a", "1"), equal("a", "1")), nums(0, 2, 5, 7)},
		{list(equal("a", "1"), equal("a", "2")), nil},
		{list(equal("a", "1"), not("a", "1")), nil},
		{list(equal("a", "1"), equal("b", "")), nums(0, 5, 7)},
		{list(equal("a", "1"), equal("b", ""), equal("c", "2")), nums(7)},
		{list(equal("c", "1"), equal("b", "2"), equal("a", "12")), nums(4)},
		{list(equal("a", "12"), equal("b", "1"), equal("c", "1")), nil},
		{list(some("a"), some("b")), nums(1, 2, 4)},
		{list(some("a"), not("a", "1")), nums(1, 4)},
		{list(prefix("a", "1"), not("b", "1")), nums(0, 4, 5, 7)},
		{list(prefix("a", "1"), not("a", "1"), some("c")), nums(4)},
		{list(some("a"), some("b"), some("c"), not("a", "1"), not("b", "1"), prefix("a", ""), equal("d", ""), equal("c", "1")), nums(4)},
	} {
		for range 2 {
			wantFind(t, x, y.l, y.want...)
		}
		wantFind(t, New(town()), y.l, y.want...)
	}
}

// Promise 14.2: of matchers that are wrong match.Is is no, whatever rows there are.
func TestFindWrong(t *testing.T) {
	for _, rows := range [][][]api.Pair{nil, table(nil), town(), table(row("A", "1", "", "1", "a", "\x1F")), table(row("a", "1"), row("a", full+"4"), row(long+"f", ""))} {
		x := New(rows)
		for _, l := range wrong() {
			wantFind(t, x, l)
		}
		wantFind(t, x, slices.Repeat(list(equal("a", "1")), 1_000_000))
		wantFind(t, x, list(equal("a", strings.Repeat("1", 1<<20))))
	}
}

// Promise 14.2: as many matchers as there may be.
func TestFindMost(t *testing.T) {
	var rows [][]api.Pair
	for n := range 300 {
		var l []api.Pair
		for i, name := range []string{"a", "b", "c", "d", "e", "f", "g", "h"} {
			l = append(l, pair(name, fmt.Sprint(n>>i%2)))
		}
		rows = append(rows, l)
	}
	x := New(rows)
	for n := range 256 {
		var l []api.Match
		for _, p := range rows[n] {
			l = append(l, equal(p.Name, p.Value))
		}
		want := nums(n)
		if n+256 < 300 {
			want = append(want, n+256)
		}
		wantFind(t, x, l, want...)
		slices.Reverse(l)
		wantFind(t, x, l, want...)
		l[n%8].Kind = api.MNot
		wantFind(t, x, l, plainFind(rows, l)...)
		wantFind(t, x, append(l, l[0]))
	}
}

// Promise 14.2: no rows, and rows without pairs, which have none and are told where nothing is asked of them.
func TestFewRows(t *testing.T) {
	for _, rows := range [][][]api.Pair{nil, {}} {
		x := New(rows)
		wantOf(t, x, pair("a", "1"))
		wantOf(t, x, pair("", ""))
		wantFind(t, x, nil)
		wantFind(t, x, list(not("a", "1")))
	}
	x := New(table(nil, row("a", "1"), nil, []api.Pair{}))
	wantOf(t, x, pair("a", "1"), 1)
	wantOf(t, x, pair("", ""))
	wantOf(t, x, pair("a", ""))
	wantFind(t, x, nil, 0, 1, 2, 3)
	wantFind(t, x, []api.Match{}, 0, 1, 2, 3)
	wantFind(t, x, list(equal("a", "")), 0, 2, 3)
	wantFind(t, x, list(not("a", "1")), 0, 2, 3)
	wantFind(t, x, list(prefix("a", "")), 0, 1, 2, 3)
	wantFind(t, x, list(some("a")), 1)
}

// Promise 14.2: a row that has a pair several times is told once.
func TestPairTwice(t *testing.T) {
	x := New(table(row("a", "1", "a", "1"), row("b", "1"), row("a", "1", "b", "1", "a", "1", "a", "1"), row("b", "1", "b", "1", "b", "1")))
	wantOf(t, x, pair("a", "1"), 0, 2)
	wantOf(t, x, pair("b", "1"), 1, 2, 3)
	wantFind(t, x, list(equal("a", "1")), 0, 2)
	wantFind(t, x, list(equal("b", "1"), not("a", "1")), 1, 3)
}

// Promise 14.2: a row has each of its pairs, but matchers ask for the first one with a name.
func TestNameTwice(t *testing.T) {
	x := New(table(row("a", "1", "a", "2"), row("a", "2", "a", "1"), row("a", "", "a", "1"), row("a", "1", "a", ""), row("b", "1", "a", "2")))
	wantOf(t, x, pair("a", "1"), 0, 1, 2, 3)
	wantOf(t, x, pair("a", "2"), 0, 1, 4)
	wantOf(t, x, pair("a", ""), 2, 3)
	wantFind(t, x, list(equal("a", "1")), 0, 3)
	wantFind(t, x, list(equal("a", "2")), 1, 4)
	wantFind(t, x, list(equal("a", "")), 2)
	wantFind(t, x, list(not("a", "1")), 1, 2, 4)
	wantFind(t, x, list(not("a", "")), 0, 1, 3, 4)
	wantFind(t, x, list(prefix("a", "2")), 1, 4)
	wantFind(t, x, list(some("a")), 0, 1, 3, 4)
	wantFind(t, x, list(equal("a", "1"), equal("a", "2")))
	wantFind(t, x, list(equal("a", "2"), equal("b", "1")), 4)
}

// R6: rows that are no labels have their pairs, too.
func TestNoLabels(t *testing.T) {
	great := strings.Repeat("x", 1<<20)
	rows := table(
		row("", ""),
		row("A", "\x00"),
		row("b", "1", "a", "1"),
		row(great, great),
		row("a", great),
		row("a", full+"4", "b", ""),
		slices.Repeat(row("a", "1", "b", "2"), 100),
		row("a", "\xFF\xFE", "é", "ü"),
		row("\xFF", "", "", "\x00"),
		row("a", "1", "", ""),
	)
	wantIndex(t, rows, []string{"", "a", "b", "A", great, "é", "\xFF", long}, []string{"", "1", "2", "\x00", great, full, full + "4", "\xFF\xFE", "ü"})
	x := New(rows)
	wantOf(t, x, pair("", ""), 0, 9)
	wantOf(t, x, pair(great, great), 3)
	wantOf(t, x, pair(great, great[1:]))
	wantFind(t, x, list(equal("a", "1")), 2, 6, 9)
	wantFind(t, x, list(prefix("a", full)), 5)
	wantFind(t, x, list(not("a", "1"), some("a")), 4, 5, 7)
}

// R6: a row may have more pairs than labels have; each of them is one of its own.
func TestWideRows(t *testing.T) {
	var wide []api.Pair
	for i := range 300 {
		wide = append(wide, pair(string(rune('a'+i%26)), fmt.Sprint(i)), pair(strings.Repeat("_", 1+i), "1"))
	}
	rows := table(row("a", "0"), wide, nil, wide[1:], row("z", "299"), wide[:20])
	x := New(rows)
	for _, p := range wide {
		wantOf(t, x, p, plainOf(rows, p)...)
		for _, l := range [][]api.Match{list(equal(p.Name, p.Value)), list(not(p.Name, p.Value)), list(prefix(p.Name, p.Value[:1])), list(some(p.Name)), list(some(p.Name), equal("_", "1"))} {
			wantFind(t, x, l, plainFind(rows, l)...)
		}
	}
	wantOf(t, x, wide[599], 1, 3)
	wantOf(t, x, pair("a", "286"), 1, 3)
	wantFind(t, x, list(equal("a", "286")))
	wantFind(t, x, list(equal(strings.Repeat("_", 32), "1")), 1, 3)
}

// Promise 14.2: the longest names and values, and as many pairs as labels may have.
func TestLongestLabels(t *testing.T) {
	var rows [][]api.Pair
	for n := range 40 {
		var l []api.Pair
		for i, sign := range "_abcdxyz" {
			l = append(l, pair(long[:31]+string(sign), fmt.Sprintf("%s%02d", full[:62], n/(i+1))))
		}
		rows = append(rows, l)
	}
	wantIndex(t, rows, []string{long[:31] + "_", long[:31] + "z", long, long[:31]}, []string{"", full[:62], full[:62] + "00", full[:62] + "04", full[:62] + "39", full[:63] + "0"})
}

// anyRow is a row of a few pairs that often are the same ones, in any order.
func anyRow(seed int) []api.Pair {
	c := mixed(seed)
	var l []api.Pair
	for range c % 5 {
		c = mixed(int(c >> 2))
		l = append(l, pair([]string{"a", "b", "c", "ab"}[c%4], []string{"", "1", "12", "2", "21"}[c>>8%5]))
	}
	return l
}

// Promise 14.2: any rows against other ways.
func TestAnyRows(t *testing.T) {
	for seed := range 25 {
		var rows [][]api.Pair
		for n := range seed * 2 {
			rows = append(rows, anyRow(seed*1000+n))
		}
		wantIndex(t, rows, []string{"a", "b", "c", "ab", "d"}, []string{"", "1", "12", "2", "21", "3"})
		if t.Failed() {
			return
		}
	}
}

// Promise 14.2: Find tells just the rows of which match.Is is yes.
func TestFindIsMatch(t *testing.T) {
	var rows [][]api.Pair
	for n := range 60 {
		rows = append(rows, anyRow(n))
	}
	x := New(rows)
	for _, l := range asks([]string{"a", "b", "ab", "d"}, []string{"", "1", "12", "2"}) {
		var want []int
		for n := range rows {
			if match.Is(l, rows[n]) {
				want = append(want, n)
			}
		}
		wantFind(t, x, l, want...)
	}
}

// Promise 14.2: a great many rows, each in its place.
func TestManyRows(t *testing.T) {
	const count = 100_000
	var rows [][]api.Pair
	for n := range count {
		rows = append(rows, row("a", fmt.Sprint(n), "b", fmt.Sprint(n%2), "c", fmt.Sprint(n%1000)))
	}
	x := New(rows)
	var odd []int
	for n := 1; n < count; n += 2 {
		odd = append(odd, n)
	}
	wantOf(t, x, pair("b", "1"), odd...)
	wantFind(t, x, list(equal("b", "1")), odd...)
	wantFind(t, x, list(not("b", "0")), odd...)
	for n := range count {
		if l := x.Of(pair("a", fmt.Sprint(n))); len(l) != 1 || l[0] != n {
			t.Fatalf("Of a=%d: %s", n, brief(l))
		}
		if l := x.Find(list(equal("a", fmt.Sprint(n)), not("c", "7"))); n%1000 != 7 && !slices.Equal(l, nums(n)) || n%1000 == 7 && len(l) > 0 {
			t.Fatalf("Find of a=%d: %s", n, brief(l))
		}
	}
	var want []int
	for n := 321; n < count; n += 1000 {
		want = append(want, n)
	}
	wantOf(t, x, pair("c", "321"), want...)
	wantFind(t, x, list(equal("c", "321"), equal("b", "1")), want...)
	wantFind(t, x, list(equal("c", "321"), equal("b", "0")))
}

// R4: rows are neither changed nor kept: what happens to them later is not seen, be the index asked first ahead of it or behind it.
func TestRowsNotKept(t *testing.T) {
	for _, askedFirst := range []bool{false, true} {
		rows := town()
		spare := append(slices.Clone(rows[0]), row("b", "9", "c", "9")...)
		rows[0] = spare[:1]
		x := New(rows[:6])
		if askedFirst {
			wantOf(t, x, pair("a", "1"), 0, 2, 5)
		}
		for n, want := range town() {
			if !slices.Equal(rows[n], want) {
				t.Fatalf("row %d has been changed: %q", n, rows[n])
			}
		}
		if !slices.Equal(spare, row("a", "1", "b", "9", "c", "9")) {
			t.Fatalf("what lies behind a row has been changed: %q", spare)
		}
		rows[1][0] = pair("z", "9")
		rows[2][1].Value = "9"
		spare[0] = pair("z", "9")
		rows[3] = row("a", "1", "z", "9")
		rows[4] = nil
		rows[5] = append(rows[5], pair("z", "9"))
		rows = append(rows[:5], row("z", "9"))
		as := town()[:6]
		for _, p := range row("a", "1", "a", "2", "a", "12", "b", "1", "b", "2", "b", "9", "c", "1", "c", "9", "z", "9") {
			wantOf(t, x, p, plainOf(as, p)...)
			for _, l := range [][]api.Match{list(equal(p.Name, p.Value)), list(not(p.Name, p.Value)), list(prefix(p.Name, "")), list(some(p.Name))} {
				wantFind(t, x, l, plainFind(as, l)...)
			}
		}
		wantFind(t, x, nil, 0, 1, 2, 3, 4, 5)
	}
}

// R4: what lies in the spare room behind matchers is not changed.
func TestMatchersNotChanged(t *testing.T) {
	l := list(equal("a", "1"), equal("b", "1"), not("c", "1"), some("a"))
	as := slices.Clone(l)
	x := New(town())
	for size := range 5 {
		wantFind(t, x, l[:size], plainFind(town(), l[:size])...)
	}
	if !slices.Equal(l, as) {
		t.Errorf("what lies behind matchers has been changed: %s", tell(l))
	}
}

// R4: answers share no memory with the index, nor with one another.
func TestAnswersNewMemory(t *testing.T) {
	x := New(town())
	asked := [][]api.Match{nil, list(equal("a", "1")), list(equal("b", "1"), equal("a", "1")), list(equal("a", "1"), equal("a", "1")), list(not("a", "1")), list(some("a")), list(equal("a", ""))}
	for range 3 {
		for _, p := range row("a", "1", "b", "1", "c", "1", "a", "3") {
			other := x.Of(p)
			spoil(x.Of(p))
			wantList(t, "an answer beside one that was changed", other, plainOf(town(), p))
			wantOf(t, x, p, plainOf(town(), p)...)
		}
		for _, l := range asked {
			other := x.Find(l)
			spoil(x.Find(l))
			wantList(t, "an answer beside one that was changed", other, plainFind(town(), l))
			wantFind(t, x, l, plainFind(town(), l)...)
		}
	}
	for _, p := range row("a", "1", "b", "1", "c", "1") {
		wantOf(t, x, p, plainOf(town(), p)...)
	}
}

// Promise 14.2: indexes are apart, and what one was asked for changes no later answer.
func TestApart(t *testing.T) {
	rows := town()
	one, other, none := New(rows), New(rows[1:]), New(nil)
	for range 2 {
		for _, l := range asks([]string{"a", "b"}, []string{"", "1", "2"}) {
			wantFind(t, one, l, plainFind(rows, l)...)
			wantFind(t, other, l, plainFind(rows[1:], l)...)
			wantFind(t, none, l)
			wantFind(t, New(rows), l, plainFind(rows, l)...)
		}
		wantOf(t, one, pair("a", "1"), 0, 2, 5, 7)
		wantOf(t, other, pair("a", "1"), 1, 4, 6)
		wantOf(t, none, pair("a", "1"))
	}
}

// Ways: the lists are made when one is asked for first, and once.
func TestMadeOnce(t *testing.T) {
	for name, ask := range map[string]func(x *Index){
		"Of":           func(x *Index) { x.Of(pair("a", "1")) },
		"Of of none":   func(x *Index) { x.Of(pair("d", "1")) },
		"Find":         func(x *Index) { x.Find(list(equal("a", "1"))) },
		"Find of none": func(x *Index) { x.Find(list(equal("d", "1"))) },
	} {
		x := New(town())
		if x.lists != nil {
			t.Fatal("lists are made though none was asked for")
		}
		ask(x)
		if len(x.lists) != 7 {
			t.Fatalf("%s: %d lists are made; want 7", name, len(x.lists))
		}
		// A list that no row has goes when the lists are made again.
		mark := pair("mark", "1")
		x.lists[mark] = nums(3)
		ask(x)
		wantOf(t, x, mark, 3)
		wantFind(t, x, list(equal("a", "1")), 0, 2, 5, 7)
		wantOf(t, x, mark, 3)
	}
}

// Ways: many may ask at once, also for the first time, and each is told what there is when the lists have been made.
func TestAskedAtOnce(t *testing.T) {
	var rows [][]api.Pair
	var want []int
	for n := range 5000 {
		rows = append(rows, row("a", fmt.Sprint(n), "b", fmt.Sprint(n%7)))
		if n%7 == 3 {
			want = append(want, n)
		}
	}
	for range 20 {
		x := New(rows)
		var answers [16][2][]int
		var asking sync.WaitGroup
		begin := make(chan struct{})
		for i := range answers {
			asking.Go(func() {
				<-begin
				answers[i] = [2][]int{x.Of(pair("b", "3")), x.Find(list(equal("b", "3"), not("a", "1")))}
			})
		}
		close(begin)
		asking.Wait()
		for _, l := range answers {
			wantList(t, "Of at once", l[0], want)
			wantList(t, "Find at once", l[1], want)
		}
	}
}

// Promise 14.3: what is found goes by the laws of sets: several matchers together ask for what each of them asks for.
func TestFindLaws(t *testing.T) {
	var rows [][]api.Pair
	for n := range 80 {
		rows = append(rows, anyRow(n+500))
	}
	x := New(rows)
	every := x.Find(nil)
	wantList(t, "Find of nothing", every, x.all())
	names, values := []string{"a", "b", "ab", "d"}, []string{"", "1", "12", "2"}
	var ones []api.Match
	for _, name := range names {
		wantList(t, "any value, or none", Or(x.Find(list(some(name))), x.Find(list(equal(name, "")))), every)
		wantList(t, "any value, and none", And(x.Find(list(some(name))), x.Find(list(equal(name, "")))), nil)
		for _, value := range values {
			wantList(t, "not a value", x.Find(list(not(name, value))), Less(every, x.Find(list(equal(name, value)))))
			wantList(t, "a value that begins with it", Less(x.Find(list(equal(name, value))), x.Find(list(prefix(name, value)))), nil)
			ones = append(ones, equal(name, value), not(name, value), prefix(name, value))
		}
		ones = append(ones, some(name))
	}
	for _, m := range ones {
		for _, other := range ones {
			wantFind(t, x, list(m, other), And(x.Find(list(m)), x.Find(list(other)))...)
		}
	}
}

func FuzzIndex(f *testing.F) {
	f.Add("a,1;a,2,b,1", 2, "a", "1")
	f.Add("a,1,a,2;;b,,a,1,a,1", 1, "a", "")
	f.Add("\xff,\x00;,", 4, "b", "")
	f.Fuzz(func(t *testing.T, s string, kind int, name, value string) {
		var rows [][]api.Pair
		for part := range strings.SplitSeq(s, ";") {
			rows = append(rows, row(strings.Split(part, ",")...))
		}
		x := New(rows)
		m := api.Match{Kind: kind, Name: name, Value: value}
		for _, p := range append(slices.Concat(rows...), pair(name, value)) {
			wantOf(t, x, p, plainOf(rows, p)...)
			for _, l := range [][]api.Match{nil, list(m), list(equal(p.Name, p.Value)), list(not(p.Name, p.Value)), list(prefix(p.Name, value), m), list(some(p.Name), equal(name, value)), list(equal(p.Name, p.Value), equal(name, value))} {
				wantFind(t, x, l, plainFind(rows, l)...)
			}
		}
	})
}

// Lists are put together as sets, and an index tells which rows are asked for.
func Example() {
	fmt.Println(And([]int{3, 1, 2}, []int{2, 3, 5}), Or([]int{3, 1, 2}, []int{2, 3, 5}), Less([]int{3, 1, 2}, []int{2, 3, 5}))
	x := New([][]api.Pair{{{Name: "job", Value: "node"}}, {{Name: "job", Value: "node"}, {Name: "zone", Value: "eu"}}, {{Name: "zone", Value: "eu"}}})
	fmt.Println(x.Of(api.Pair{Name: "job", Value: "node"}))
	fmt.Println(x.Find([]api.Match{{Kind: api.MEqual, Name: "zone", Value: "eu"}, {Kind: api.MAny, Name: "job"}}))
	fmt.Println(x.Find([]api.Match{{Kind: api.MNot, Name: "zone", Value: "eu"}}))
	// Output:
	// [2 3] [1 2 3 5] [1]
	// [0 1]
	// [1]
	// [0]
}
