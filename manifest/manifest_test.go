package manifest

import (
	"fmt"
	"math"
	"slices"
	"strings"
	"testing"

	"barograph/api"
	"barograph/disk"
)

// most is the greatest number that a manifest may have.
const most = 99999999

// same tells whether two manifests are the same; an empty list is as none.
func same(a, b Manifest) bool {
	return a.Epoch == b.Epoch && a.Base == b.Base && a.Promise == b.Promise && a.Mark == b.Mark && a.Check == b.Check && slices.Equal(a.Blocks, b.Blocks)
}

// brief is a manifest in few words.
func brief(m Manifest) string { return fmt.Sprintf("%.300s", fmt.Sprintf("%+q", fmt.Sprint(m))) }

// good is a manifest that is right.
func good(blocks ...string) Manifest {
	return Manifest{Epoch: 2, Base: 5, Promise: 300, Mark: 20, Check: 7, Blocks: blocks}
}

// numbered is so many names.
func numbered(count int) []string {
	var l []string
	for i := range count {
		l = append(l, fmt.Sprintf("b%08d-%08d", 2*i+1, 2*i+2))
	}
	return l
}

// isPlainName tells whether a file may have that name.
func isPlainName(s string) bool {
	return len(s) >= 1 && len(s) <= 32 && strings.Trim(s, "abcdefghijklmnopqrstuvwxyz0123456789.-") == ""
}

// plainCheck is Check by another way.
func plainCheck(m Manifest) api.Errno {
	right := func(n, least int) bool { return n >= least && n <= most }
	switch {
	case !right(m.Epoch, 1), !right(m.Base, 0), !right(m.Promise, 0), !right(m.Check, 0):
		return api.ErrRange
	case m.Epoch > m.Promise:
		return api.ErrOrder
	case len(m.Blocks) > 16:
		return api.ErrLong
	case slices.ContainsFunc(m.Blocks, func(s string) bool { return !isPlainName(s) }):
		return api.ErrField
	}
	return api.OK
}

// wantCheck checks a manifest, and asks for the same error of Encode and of Publish, which then do nothing.
func wantCheck(t *testing.T, m Manifest, want api.Errno) {
	t.Helper()
	if e := plainCheck(m); e != want {
		t.Fatalf("%s: %v by another way; want %v", brief(m), e, want)
	}
	if e := Check(m); e != want {
		t.Errorf("Check of %s: %v; want %v", brief(m), e, want)
	}
	s, e := Encode(m)
	if e != want || (s == "") != (want != api.OK) {
		t.Errorf("Encode of %s: %.100x, %v; want %v", brief(m), s, e, want)
	}
	d := disk.New(1 << 16)
	if e := Publish(d, m); e != want || want != api.OK && len(d.Names()) > 0 {
		t.Errorf("Publish of %s: %v, files %q; want %v", brief(m), e, d.Names(), want)
	}
}

// The chapter's examples.
func TestExample(t *testing.T) {
	d := disk.New(1000)
	wantLoad(t, d, None(), api.OK)
	m := Manifest{Epoch: 2, Promise: 2}
	if e := Publish(d, m); e != api.OK {
		t.Fatalf("Publish: %v", e)
	}
	wantLoad(t, d, m, api.OK)
	d.Crash(nil)
	wantLoad(t, d, m, api.OK)
}

// Promise 17.1: None, field by field; it is right, and it is the same one each time.
func TestNone(t *testing.T) {
	want := Manifest{Epoch: 1, Base: 0, Promise: 1, Mark: -9223372036854775808, Check: 0}
	for range 3 {
		m := None()
		if !same(m, want) || len(m.Blocks) != 0 {
			t.Errorf("None: %s; want %s", brief(m), brief(want))
		}
		wantCheck(t, m, api.OK)
		m.Epoch, m.Blocks = 7, append(m.Blocks, "b")
	}
}

// numbers is those at the edges of what a manifest may have, and far off.
func numbers() []int {
	return []int{math.MinInt, math.MinInt32, -most, -256, -2, -1, 0, 1, 2, 9, 10, 127, 128, 255, 256, 65535, 65536, 1<<24 - 1, 1 << 24, most - 1, most, most + 1, most + 2, 1 << 27, math.MaxInt32, math.MaxInt32 + 1, math.MaxUint32, math.MaxUint32 + 1, math.MaxUint32 + 2, math.MaxInt - 1, math.MaxInt}
}

// times is marks of all sizes.
func times() []int64 {
	return []int64{math.MinInt64, math.MinInt64 + 1, -1 << 40, -257, -256, -129, -128, -2, -1, 0, 1, 2, 127, 128, 255, 256, most + 1, 1 << 40, math.MaxInt64 - 1, math.MaxInt64}
}

// Promise 17.1: each number at its edges, with the others at theirs.
func TestCheckNumbers(t *testing.T) {
	for _, n := range numbers() {
		outside := n < 0 || n > most
		for _, blocks := range [][]string{nil, {"b"}} {
			e := api.OK
			if outside {
				e = api.ErrRange
			}
			wantCheck(t, Manifest{Epoch: 1, Promise: 1, Base: n, Blocks: blocks}, e)
			wantCheck(t, Manifest{Epoch: 1, Promise: 1, Check: n, Blocks: blocks}, e)
			wantCheck(t, Manifest{Epoch: most, Promise: most, Base: n, Check: most, Blocks: blocks}, e)
			wantCheck(t, Manifest{Epoch: most, Promise: most, Base: most, Check: n, Blocks: blocks}, e)
			if n == 0 {
				e = api.ErrOrder
			}
			wantCheck(t, Manifest{Epoch: 1, Promise: n, Blocks: blocks}, e)
			if n == 0 {
				e = api.ErrRange
			}
			wantCheck(t, Manifest{Epoch: n, Promise: most, Blocks: blocks}, e)
			wantCheck(t, Manifest{Epoch: n, Promise: n, Blocks: blocks}, e)
		}
	}
	wantCheck(t, Manifest{}, api.ErrRange)
	// No number but Promise is held against another one.
	wantCheck(t, Manifest{Epoch: 1, Base: most, Promise: 1, Check: 0}, api.OK)
	wantCheck(t, Manifest{Epoch: 1, Base: 0, Promise: 1, Check: most}, api.OK)
	wantCheck(t, Manifest{Epoch: 1, Base: 0, Promise: 1, Check: most, Blocks: numbered(1)}, api.OK)
}

// Promise 17.1: Promise against Epoch.
func TestCheckOrder(t *testing.T) {
	for _, n := range []int{1, 2, 3, 127, 128, 255, 256, 257, 65536, 1 << 24, most - 1, most} {
		wantCheck(t, Manifest{Epoch: n, Promise: n}, api.OK)
		wantCheck(t, Manifest{Epoch: n, Promise: n - 1}, api.ErrOrder)
		wantCheck(t, Manifest{Epoch: n, Promise: 0}, api.ErrOrder)
		wantCheck(t, Manifest{Epoch: n, Promise: most}, api.OK)
		wantCheck(t, Manifest{Epoch: 1, Promise: n}, api.OK)
	}
}

// Promise 17.1: any mark is right.
func TestCheckMarks(t *testing.T) {
	for _, mark := range times() {
		m := good("b")
		m.Mark = mark
		wantCheck(t, m, api.OK)
	}
}

// Promise 17.1: at most 16 names.
func TestCheckMany(t *testing.T) {
	for _, count := range []int{0, 1, 2, 15, 16, 17, 18, 32, 63, 64, 65, 66, 255, 256, 257, 65536, 65536 + 16, 1 << 18} {
		want := api.OK
		if count > 16 {
			want = api.ErrLong
		}
		wantCheck(t, good(numbered(count)...), want)
		wantCheck(t, good(slices.Repeat([]string{"b"}, count)...), want)
		if count > 16 {
			wantCheck(t, good(make([]string, count)...), want)
		}
	}
}

// Promise 17.1: each byte as a sign of a name, and each length, at each place of a list.
func TestCheckNames(t *testing.T) {
	var names []string
	for c := range 256 {
		sign := string([]byte{byte(c)})
		names = append(names, sign, sign+"b", "b"+sign+"b", "b"+sign, strings.Repeat("b", 31)+sign)
	}
	for _, size := range []int{0, 1, 2, 17, 31, 32, 33, 34, 64, 255, 256, 257, 1 << 16, 1<<16 + 1, 1 << 20} {
		names = append(names, strings.Repeat("b", size), strings.Repeat("-", size))
	}
	names = append(names, "m", "n", "w00000001", "b00000001-00000004", "b00000001-00000004x", "é", "b é", "b\n", "..", ".", "a.b-c", "a/b", "a_b")
	for _, name := range names {
		want := api.ErrField
		if isPlainName(name) {
			want = api.OK
		}
		wantCheck(t, good(name), want)
		wantCheck(t, good("b", name), want)
		wantCheck(t, good(name, "b"), want)
	}
	for at := range 16 {
		for _, name := range []string{"", "B", "b ", strings.Repeat("b", 33)} {
			l := numbered(16)
			l[at] = name
			wantCheck(t, good(l...), api.ErrField)
		}
	}
}

// Promise 17.1: names stand in any order, and may be there several times.
func TestCheckAnyOrder(t *testing.T) {
	wantCheck(t, good("c", "a", "b"), api.OK)
	wantCheck(t, good("a", "a"), api.OK)
	wantCheck(t, good(slices.Repeat([]string{strings.Repeat("z", 32)}, 16)...), api.OK)
}

// Promise 17.1: of several faults the first one is told, in the chapter's order, whichever numbers and names they are of.
func TestCheckFirstFault(t *testing.T) {
	faults := []struct {
		e  api.Errno
		do func(*Manifest)
	}{
		{api.ErrRange, func(m *Manifest) { m.Epoch = 0 }},
		{api.ErrRange, func(m *Manifest) { m.Epoch = -1 }},
		{api.ErrRange, func(m *Manifest) { m.Epoch = most + 1 }},
		{api.ErrRange, func(m *Manifest) { m.Base = -1 }},
		{api.ErrRange, func(m *Manifest) { m.Base = most + 1 }},
		{api.ErrRange, func(m *Manifest) { m.Promise = -1 }},
		{api.ErrRange, func(m *Manifest) { m.Promise = most + 1 }},
		{api.ErrRange, func(m *Manifest) { m.Check = -1 }},
		{api.ErrRange, func(m *Manifest) { m.Check = most + 1 }},
		{api.ErrOrder, func(m *Manifest) { m.Epoch, m.Promise = max(m.Epoch, 2), 1 }},
		{api.ErrLong, func(m *Manifest) { m.Blocks = append(m.Blocks, numbered(17)...) }},
		{api.ErrField, func(m *Manifest) { m.Blocks = append([]string{"B"}, m.Blocks...) }},
		{api.ErrField, func(m *Manifest) { m.Blocks = append(m.Blocks, "") }},
	}
	for i, one := range faults {
		for j, other := range faults[i:] {
			m := good("a", "b")
			// Backwards, so that the earlier fault stands whatever the later one does.
			other.do(&m)
			one.do(&m)
			if e := plainCheck(m); e != one.e {
				t.Fatalf("faults %d and %d: %v by another way; want %v", i, i+j, e, one.e)
			}
			wantCheck(t, m, one.e)
		}
	}
	all := good()
	for _, f := range slices.Backward(faults) {
		f.do(&all)
	}
	wantCheck(t, all, api.ErrRange)
}

// mixed is a number that looks like no other one's.
func mixed(n int) uint64 {
	c := uint64(n)*0x9E3779B97F4A7C15 + 0x1234567
	c = (c ^ c>>30) * 0xBF58476D1CE4E5B9
	c = (c ^ c>>27) * 0x94D049BB133111EB
	return c ^ c>>31
}

// anyOf is one of a list.
func anyOf[T any](l []T, c uint64) T { return l[c%uint64(len(l))] }

// anyManifest is a manifest, often a right one.
func anyManifest(seed int) Manifest {
	next := func() uint64 {
		seed++
		return mixed(seed * 1000003)
	}
	number := func(least int) int {
		switch next() % 40 {
		case 0:
			return anyOf(numbers(), next())
		case 1:
			return most
		}
		return least + int(next()>>(next()%60))%(most+1-least)
	}
	m := Manifest{Epoch: number(1), Base: number(0), Check: number(0), Mark: int64(next()) >> (next() % 64)}
	m.Promise = m.Epoch
	if next()%2 == 0 {
		m.Promise = max(m.Epoch, number(0))
	}
	if next()%20 == 0 {
		m.Promise = number(0)
	}
	count := anyOf([]int{0, 0, 1, 2, 3, 15, 16}, next())
	if next()%20 == 0 {
		count = 17
	}
	for i := range count {
		name := anyOf([]string{"m", "n", "b", "0", "-", ".", strings.Repeat("b", 32), numbered(i + 1)[i]}, next())
		if next()%60 == 0 {
			name = anyOf([]string{"", "B", "b b", strings.Repeat("b", 33), "\x00", "\xff"}, next())
		}
		m.Blocks = append(m.Blocks, name)
	}
	return m
}

// anyRight is a manifest that is right.
func anyRight(seed int) Manifest {
	for ; ; seed += 7919 {
		if m := anyManifest(seed); plainCheck(m) == api.OK {
			return m
		}
	}
}

// Promise 17.1: any manifests against another way.
func TestCheckIsPlain(t *testing.T) {
	seen := map[api.Errno]int{}
	for seed := range 5000 {
		m := anyManifest(seed)
		e := plainCheck(m)
		seen[e]++
		wantCheck(t, m, e)
	}
	for _, e := range []api.Errno{api.OK, api.ErrRange, api.ErrOrder, api.ErrLong, api.ErrField} {
		if seen[e] < 20 {
			t.Errorf("%v was asked for %d times alone", e, seen[e])
		}
	}
}

// withRoom is names behind which there is room, and all of that room.
func withRoom(names ...string) (l, all []string) {
	all = append(slices.Clone(names), "behind", "and more", "BEHIND")
	return all[:len(names)], all
}

// R4: what is handed in is not changed, and what lies behind its end neither.
func TestHandedIn(t *testing.T) {
	for _, names := range [][]string{{}, {"b", "a", "b"}, {"b", "B"}, numbered(16), numbered(17)} {
		l, all := withRoom(names...)
		as := slices.Clone(all)
		m := good(l...)
		Check(m)
		Encode(m)
		Publish(disk.New(1000), m)
		Publish(disk.New(10), m)
		if !slices.Equal(all, as) || !same(m, good(names...)) {
			t.Errorf("what was handed in has been changed: %q, %s; want %q", all, brief(m), as)
		}
	}
}

// R4: what is handed in is not kept: what was published is told as it was.
func TestNotKept(t *testing.T) {
	d := disk.New(1000)
	l, all := withRoom("a", "b")
	if e := Publish(d, good(l...)); e != api.OK {
		t.Fatalf("Publish: %v", e)
	}
	clear(all)
	wantLoad(t, d, good("a", "b"), api.OK)
}

// R4: what is handed out shares nothing with another answer.
func TestHandedOut(t *testing.T) {
	d := disk.New(1000)
	if e := Publish(d, good("a", "b")); e != api.OK {
		t.Fatalf("Publish: %v", e)
	}
	s, _ := Encode(good("a", "b"))
	for name, tell := range map[string]func() (Manifest, api.Errno){
		"Load":   func() (Manifest, api.Errno) { return Load(d) },
		"Decode": func() (Manifest, api.Errno) { return Decode(s) },
	} {
		one, _ := tell()
		other, _ := tell()
		clear(one.Blocks[:cap(one.Blocks)])
		third, e := tell()
		if e != api.OK || !same(other, good("a", "b")) || !same(third, good("a", "b")) {
			t.Errorf("%s: answers share memory: %s, %s", name, brief(other), brief(third))
		}
	}
}

// R3: an empty list is as none.
func TestEmptyList(t *testing.T) {
	for _, l := range [][]string{nil, {}, numbered(3)[:0]} {
		m := good()
		m.Blocks = l
		wantCheck(t, m, api.OK)
		want, _ := plainEncode(good())
		wantBytes(t, m, want)
	}
}
