package postings

import (
	"fmt"
	"math"
	"slices"
	"testing"
)

// mixed is a number that looks like any, the same one for the same i.
func mixed(i int) uint64 {
	x := (uint64(i) + 1) * 0x9E3779B97F4A7C15
	x = (x ^ x>>30) * 0xBF58476D1CE4E5B9
	x = (x ^ x>>27) * 0x94D049BB133111EB
	return x ^ x>>31
}

// nums is numbers in a row.
func nums(l ...int) []int { return l }

// plainRising is the members of a list by another way: each one is put where it belongs, if it is not there yet.
func plainRising(l []int) []int {
	var members []int
	for _, n := range l {
		at := 0
		for at < len(members) && members[at] < n {
			at++
		}
		if at == len(members) || members[at] != n {
			members = slices.Insert(members, at, n)
		}
	}
	return members
}

// plainSets is And, Or and Less by another way: each number is asked of both lists, from their beginning on.
func plainSets(a, b []int) (both, one, first []int) {
	for _, n := range plainRising(append(slices.Clone(a), b...)) {
		one = append(one, n)
		switch inA, inB := slices.Index(a, n) >= 0, slices.Index(b, n) >= 0; {
		case inA && inB:
			both = append(both, n)
		case inA:
			first = append(first, n)
		}
	}
	return both, one, first
}

// brief is a list as it is told beside a fault: its front, and how many there are.
func brief(l []int) string {
	if len(l) <= 20 {
		return fmt.Sprint(l)
	}
	return fmt.Sprintf("%v and so on, %d in all", l[:20], len(l))
}

// wantList tells whether a list is what it must be.
func wantList(t *testing.T, what string, got, want []int) {
	t.Helper()
	if !slices.Equal(got, want) {
		t.Errorf("%s: %s; want %s", what, brief(got), brief(want))
	}
}

// wantSets asks And, Or and Less of two lists, which stay as they were.
func wantSets(t *testing.T, a, b, both, one, first []int) {
	t.Helper()
	asA, asB := slices.Clone(a), slices.Clone(b)
	of := " of " + brief(a) + " and " + brief(b)
	wantList(t, "And"+of, And(a, b), both)
	wantList(t, "Or"+of, Or(a, b), one)
	wantList(t, "Less"+of, Less(a, b), first)
	if !slices.Equal(a, asA) || !slices.Equal(b, asB) {
		t.Errorf("lists that were handed in have been changed: %s, %s; they were %s, %s", brief(a), brief(b), brief(asA), brief(asB))
	}
}

// wantPlain asks And, Or and Less of two lists, both ways round, against another way.
func wantPlain(t *testing.T, a, b []int) {
	t.Helper()
	both, one, first := plainSets(a, b)
	wantSets(t, a, b, both, one, first)
	both, one, first = plainSets(b, a)
	wantSets(t, b, a, both, one, first)
}

// all is all lists of at most so many of some numbers, in any order, each as often as one likes.
func all(most int, of ...int) [][]int {
	lists := [][]int{nil}
	begin := 0
	for range most {
		end := len(lists)
		for _, l := range lists[begin:end] {
			for _, n := range of {
				lists = append(lists, append(slices.Clone(l), n))
			}
		}
		begin = end
	}
	return lists
}

// anyList is a list of at most so many numbers, that often are the same ones.
func anyList(seed, most int) []int {
	c := mixed(seed)
	var l []int
	for i := range c % uint64(most+1) {
		d := mixed(seed + 1000*int(i+1))
		n := int(d>>8%uint64(2*most)) - most/2
		switch d % 64 {
		case 0:
			n = int(d)
		case 1:
			n = math.MaxInt - n*n%3
		case 2:
			n = math.MinInt + n*n%3
		}
		l = append(l, n)
	}
	if c>>32%4 == 0 {
		slices.Sort(l)
	}
	return l
}

// The chapter's examples, of lists.
func TestExamples(t *testing.T) {
	wantSets(t, nums(3, 1, 2), nums(2, 3, 5), nums(2, 3), nums(1, 2, 3, 5), nums(1))
}

// Promise 14.1: lists written out.
func TestWritten(t *testing.T) {
	const first, last = math.MinInt, math.MaxInt
	for _, x := range []struct{ a, b, both, one, less []int }{
		{nil, nil, nil, nil, nil},
		{nums(1), nil, nil, nums(1), nums(1)},
		{nil, nums(1), nil, nums(1), nil},
		{nums(1), nums(1), nums(1), nums(1), nil},
		{nums(1), nums(2), nil, nums(1, 2), nums(1)},
		{nums(2), nums(1), nil, nums(1, 2), nums(2)},
		{nums(0), nums(0), nums(0), nums(0), nil},
		{nums(0, 0, 0), nil, nil, nums(0), nums(0)},
		{nil, nums(0, 0, 0), nil, nums(0), nil},
		{nums(0, 0, 0), nums(0), nums(0), nums(0), nil},
		{nums(0), nums(0, 0, 0), nums(0), nums(0), nil},
		{nums(5, 5, 1, 1, 5), nums(1, 3, 1), nums(1), nums(1, 3, 5), nums(5)},
		{nums(1, 2, 3), nums(3, 2, 1), nums(1, 2, 3), nums(1, 2, 3), nil},
		{nums(3, 2, 1), nums(2), nums(2), nums(1, 2, 3), nums(1, 3)},
		{nums(2), nums(3, 2, 1), nums(2), nums(1, 2, 3), nil},
		{nums(1, 3, 5), nums(2, 4, 6), nil, nums(1, 2, 3, 4, 5, 6), nums(1, 3, 5)},
		{nums(6, 4, 2), nums(1, 3, 5), nil, nums(1, 2, 3, 4, 5, 6), nums(2, 4, 6)},
		{nums(10, 9, 100), nums(9, 1000), nums(9), nums(9, 10, 100, 1000), nums(10, 100)},
		{nums(-1, 0, 1), nums(1, -1), nums(-1, 1), nums(-1, 0, 1), nums(0)},
		{nums(-10, -9, 9), nums(-9), nums(-9), nums(-10, -9, 9), nums(-10, 9)},
		{nums(last, first, 0), nums(first, last), nums(first, last), nums(first, 0, last), nums(0)},
		{nums(last, first), nums(last-1, first+1), nil, nums(first, first+1, last-1, last), nums(first, last)},
		{nums(1<<32, 1, 1<<53), nums(1<<32+1, 0, 1<<53+1), nil, nums(0, 1, 1<<32, 1<<32+1, 1<<53, 1<<53+1), nums(1, 1<<32, 1<<53)},
	} {
		wantSets(t, x.a, x.b, x.both, x.one, x.less)
	}
}

// Promise 14.1: all pairs of lists of up to four of four numbers: each order, and each one as often as one likes.
func TestAllShort(t *testing.T) {
	lists := all(4, -1, 0, 1, 2)
	for _, a := range lists {
		for _, b := range lists {
			wantPlain(t, a, b)
			if t.Failed() {
				return
			}
		}
	}
}

// Promise 14.1: one number more or less, at each place of a rising list and of one that falls.
func TestEachPlace(t *testing.T) {
	for size := range 40 {
		var rise []int
		for i := range size {
			rise = append(rise, 2*i)
		}
		fall := slices.Clone(rise)
		slices.Reverse(fall)
		for i := -1; i <= 2*size; i++ {
			for _, l := range [][]int{rise, fall, append(slices.Clone(rise), fall...)} {
				wantPlain(t, l, nums(i))
				wantPlain(t, l, slices.DeleteFunc(slices.Clone(l), func(n int) bool { return n == i }))
				wantPlain(t, l, append(slices.Clone(l), i))
			}
		}
	}
}

// Promise 14.1: any lists against another way.
func TestAnyLists(t *testing.T) {
	for seed := range 4000 {
		wantPlain(t, anyList(seed, 1+seed%60), anyList(seed+100_000, 1+seed/7%60))
		if t.Failed() {
			return
		}
	}
}

// Promise 14.1 and R6: lists that are longer than any limit, in several orders.
func TestLongLists(t *testing.T) {
	const size = 300_000
	var twos, threes, sixes, some, odd []int
	for n := range size {
		switch {
		case n%6 == 0:
			sixes = append(sixes, n)
		case n%2 == 0:
			odd = append(odd, n)
		}
		if n%2 == 0 {
			twos = append(twos, n)
		}
		if n%3 == 0 {
			threes = append(threes, n)
		}
		if n%2 == 0 || n%3 == 0 {
			some = append(some, n)
		}
	}
	fall := slices.Clone(twos)
	slices.Reverse(fall)
	shuffled := slices.Concat(threes, threes)
	for i := range shuffled {
		j := int(mixed(i) % uint64(i+1))
		shuffled[i], shuffled[j] = shuffled[j], shuffled[i]
	}
	for _, a := range [][]int{twos, fall, slices.Concat(twos, fall)} {
		for _, b := range [][]int{threes, shuffled} {
			wantSets(t, a, b, sixes, some, odd)
		}
	}
	wantSets(t, nums(5), slices.Repeat(nums(5), size), nums(5), nums(5), nil)
	wantSets(t, slices.Repeat(nums(5), size), nums(4, 6), nil, nums(4, 5, 6), nums(5))
}

// Promise 14.1: both lists may be one, or stand in one place.
func TestOnePlace(t *testing.T) {
	l := nums(4, 1, 3, 1, 2, 5)
	wantSets(t, l, l, nums(1, 2, 3, 4, 5), nums(1, 2, 3, 4, 5), nil)
	for i := range l {
		for j := range l {
			wantPlain(t, l[:i], l[j:])
			wantPlain(t, l[:i:i], l[:j])
		}
	}
	wantList(t, "a list that was handed in in parts", l, nums(4, 1, 3, 1, 2, 5))
}

// R3: a list that is empty may be nil or not.
func TestEmptyLists(t *testing.T) {
	spare := nums(7, 8, 9)
	for _, a := range [][]int{nil, {}, spare[:0], make([]int, 0, 9)} {
		for _, b := range [][]int{nil, {}, spare[:0], make([]int, 0, 9)} {
			wantSets(t, a, b, nil, nil, nil)
		}
		wantSets(t, a, nums(2, 1), nil, nums(1, 2), nil)
		wantSets(t, nums(2, 1), a, nil, nums(1, 2), nums(1, 2))
	}
	wantList(t, "what lies behind an empty list", spare, nums(7, 8, 9))
}

// R4: what lies in the spare room behind a list's end is not changed.
func TestSpareRoom(t *testing.T) {
	for size := range 9 {
		a, b := nums(8, 3, 3, 1, 5, 9, 2, 6), nums(2, 7, 1, 8, 2, 8, 1, 3)
		asA, asB := slices.Clone(a), slices.Clone(b)
		wantPlain(t, a[:size], b[:8-size])
		wantPlain(t, a[:size], b[:size])
		wantList(t, "the first list with its spare room", a, asA)
		wantList(t, "the second list with its spare room", b, asB)
	}
}

// spoil changes a list, and what lies in the room behind its end.
func spoil(l []int) {
	l = l[:cap(l)]
	for i := range l {
		l[i] = -5
	}
}

// R4: an answer shares no memory with what was handed in, nor with another answer.
func TestNewMemory(t *testing.T) {
	for _, x := range [][2][]int{
		{nums(1, 2, 3, 4), nums(1, 2, 3, 4)},
		{nums(1, 2, 3, 4), nil},
		{nil, nums(1, 2, 3, 4)},
		{nums(1, 2, 3, 4), nums(7, 8)},
		{nums(4, 3, 2, 1, 1), nums(3, 4)},
	} {
		a, b := x[0], x[1]
		asA, asB := slices.Clone(a), slices.Clone(b)
		for name, f := range map[string]func(a, b []int) []int{"And": And, "Or": Or, "Less": Less} {
			want := slices.Clone(f(a, b))
			one, other := f(a, b), f(a, b)
			spoil(one)
			wantList(t, name+" beside an answer that was changed", other, want)
			wantList(t, name+" behind an answer that was changed", f(a, b), want)
			wantList(t, "the first list behind "+name, a, asA)
			wantList(t, "the second list behind "+name, b, asB)
			third := f(a, b)
			spoil(a)
			spoil(b)
			wantList(t, name+" when the lists have been changed", third, want)
			copy(a, asA)
			copy(b, asB)
		}
	}
}

// wantLaws holds the laws of sets against three lists.
func wantLaws(t *testing.T, a, b, c []int) {
	t.Helper()
	of := " of " + brief(a) + ", " + brief(b) + ", " + brief(c)
	same := func(law string, got, want []int) {
		t.Helper()
		wantList(t, law+of, got, want)
	}
	set := Or(a, nil)
	same("a or a", Or(a, a), set)
	same("a and a", And(a, a), set)
	same("a less a", Less(a, a), nil)
	same("a and none", And(a, nil), nil)
	same("a less none", Less(a, nil), set)
	same("none less a", Less(nil, a), nil)
	same("a and b the other way round", And(a, b), And(b, a))
	same("a or b the other way round", Or(a, b), Or(b, a))
	same("a and b and c", And(And(a, b), c), And(a, And(b, c)))
	same("a or b or c", Or(Or(a, b), c), Or(a, Or(b, c)))
	same("a and b or c", And(a, Or(b, c)), Or(And(a, b), And(a, c)))
	same("a or b and c", Or(a, And(b, c)), And(Or(a, b), Or(a, c)))
	same("a and what it is in", And(a, Or(a, b)), set)
	same("a or what is in it", Or(a, And(a, b)), set)
	same("a less b or c", Less(a, Or(b, c)), And(Less(a, b), Less(a, c)))
	same("a less b and c", Less(a, And(b, c)), Or(Less(a, b), Less(a, c)))
	same("a less b less c", Less(Less(a, b), c), Less(a, Or(b, c)))
	same("a less what b is less by c", Less(a, Less(b, c)), Or(Less(a, b), And(a, c)))
	same("a less what it is less by b", Less(a, Less(a, b)), And(a, b))
	same("a in its two parts", Or(Less(a, b), And(a, b)), set)
	same("both parts of a", And(Less(a, b), b), nil)
	same("a less b, and b", Or(Less(a, b), b), Or(a, b))
	same("a and b less c", Less(And(a, b), c), And(a, Less(b, c)))
	same("a or b less c", Less(Or(a, b), c), Or(Less(a, c), Less(b, c)))
}

// Promise 14.3: the laws of sets, of all lists of up to two of three numbers, and of any ones.
func TestLaws(t *testing.T) {
	lists := append(all(2, 0, 1, 2), nums(2, 1, 0), nums(0, 1, 2), nums(2, 0, 2, 1))
	for _, a := range lists {
		for _, b := range lists {
			for _, c := range lists {
				wantLaws(t, a, b, c)
			}
		}
		if t.Failed() {
			return
		}
	}
	for seed := range 2000 {
		wantLaws(t, anyList(seed, 1+seed%50), anyList(seed+10_000_000, 1+seed/3%50), anyList(seed+20_000_000, 1+seed/11%50))
		if t.Failed() {
			return
		}
	}
}

func FuzzLists(f *testing.F) {
	f.Add("", "", "")
	f.Add("\x03\x01\x02", "\x02\x03\x05", "\x01")
	f.Add("\x80\x7f\x80\x00", "\xff\x00\x7f\x7f", "\x7f")
	f.Fuzz(func(t *testing.T, s, u, v string) {
		var lists [3][]int
		for i, s := range []string{s, u, v} {
			for _, b := range []byte(s) {
				lists[i] = append(lists[i], int(int8(b))<<(b%57))
			}
		}
		a, b, c := lists[0], lists[1], lists[2]
		wantPlain(t, a, b)
		wantPlain(t, a, c)
		wantLaws(t, a, b, c)
	})
}
