package wal

import (
	"fmt"
	"maps"
	"math"
	"regexp"
	"slices"
	"strconv"
	"strings"
	"testing"

	"barograph/api"
	"barograph/disk"
	"barograph/frame"
)

// want holds an error against the one that is asked for.
func want(t *testing.T, what string, e, f api.Errno) {
	t.Helper()
	if e != f {
		t.Errorf("%s: error %d, want error %d", what, e, f)
	}
}

// must ends the test at an error: what comes behind would tell nothing.
func must(t *testing.T, errors ...api.Errno) {
	t.Helper()
	for i, e := range errors {
		if e != api.OK {
			t.Fatalf("step %d: error %d", i, e)
		}
	}
}

// named is the name of the segment that begins with a number.
func named(first int) string { return fmt.Sprintf("w%08d", first) }

// framed is records' frames, one behind the other.
func framed(records ...string) string {
	s := ""
	for _, r := range records {
		f, _ := frame.Put(frame.Frame{Kind: 1, Data: r})
		s += f
	}
	return s
}

// told is a record that tells its number; some are longer than others.
func told(n int) string { return fmt.Sprintf("r%d", n) + strings.Repeat("+", n%3) }

// row is the records from a number to another one.
func row(from, to int) []string {
	var l []string
	for n := from; n <= to; n++ {
		l = append(l, told(n))
	}
	return l
}

// part is the frames of the records from a number to another one.
func part(from, to int) string { return framed(row(from, to)...) }

// lasting is a disk on which these files are, all of which last.
func lasting(t *testing.T, files map[string]string) *disk.Disk {
	t.Helper()
	d := disk.New(1 << 24)
	for _, name := range slices.Sorted(maps.Keys(files)) {
		must(t, d.Append(name, files[name]), d.Sync(name))
	}
	must(t, d.SyncNames())
	return d
}

// opened is the log on a disk.
func opened(t *testing.T, d *disk.Disk, base int) *Log {
	t.Helper()
	l, e := Open(d, base)
	if e != api.OK || l == nil {
		t.Fatalf("Open(%d): error %d", base, e)
	}
	return l
}

// begun is a new log behind a number, on a disk of its own.
func begun(t *testing.T, base int) (*disk.Disk, *Log) {
	t.Helper()
	d := disk.New(1 << 24)
	return d, opened(t, d, base)
}

// appendUpTo appends records up to a number.
func appendUpTo(t *testing.T, l *Log, last int) {
	t.Helper()
	for n := l.Last() + 1; n <= last; n++ {
		if got, e := l.Append(told(n)); got != n || e != api.OK {
			t.Fatalf("Append %d: %d, error %d", n, got, e)
		}
	}
}

// wantNumbers holds what a log tells of its numbers against what it should.
func wantNumbers(t *testing.T, l *Log, first, last, durable int) {
	t.Helper()
	if l.First() != first || l.Last() != last || l.Durable() != durable {
		t.Errorf("First %d, Last %d, Durable %d; want %d, %d, %d", l.First(), l.Last(), l.Durable(), first, last, durable)
	}
}

// wantRead holds a record against the one that is asked for.
func wantRead(t *testing.T, l *Log, n int, s string, e api.Errno) {
	t.Helper()
	if got, f := l.Read(n); got != s || f != e {
		t.Errorf("Read(%d): %.40q, error %d; want %.40q, error %d", n, got, f, s, e)
	}
}

// wantLog tells whether a log has these records, from a number on, and no others.
func wantLog(t *testing.T, l *Log, first int, records []string, durable int) {
	t.Helper()
	last := first + len(records) - 1
	wantNumbers(t, l, first, last, durable)
	for i, s := range records {
		wantRead(t, l, first+i, s, api.OK)
	}
	for _, n := range []int{first - 1, last + 1, first - 17, last + 17, -1, math.MinInt, math.MaxInt} {
		wantRead(t, l, n, "", api.ErrNone)
	}
}

// wantFiles tells whether a disk has these files, and no others.
func wantFiles(t *testing.T, d *disk.Disk, files map[string]string) {
	t.Helper()
	if l := d.Names(); !slices.Equal(l, slices.Sorted(maps.Keys(files))) {
		t.Errorf("Names: %q, want %q", l, slices.Sorted(maps.Keys(files)))
	}
	for name, s := range files {
		if got, e := d.Read(name); got != s || e != api.OK {
			t.Errorf("%s: %q, error %d; want %q", name, got, e, s)
		}
	}
}

// writes is how many writes something does; there is no power behind it.
func writes(d *disk.Disk, do func()) int {
	const most = 100
	d.Fuse(most)
	do()
	left := 0
	for left <= most && d.Sync("none") == api.ErrNone {
		left++
	}
	return most - left
}

// wantWrites holds how many writes something does against how many it should.
func wantWrites(t *testing.T, d *disk.Disk, what string, count int, do func()) {
	t.Helper()
	if n := writes(d, do); n != count {
		t.Errorf("%s: %d writes, want %d", what, n, count)
	}
}

// The chapter's examples.
func TestExamples(t *testing.T) {
	d, l := begun(t, 0)
	if l.Last() != 0 {
		t.Errorf("Last: %d", l.Last())
	}
	for i, s := range []string{"a", "b"} {
		if n, e := l.Append(s); n != i+1 || e != api.OK {
			t.Errorf("Append(%q): %d, error %d", s, n, e)
		}
	}
	want(t, "Sync", l.Sync(), api.OK)
	l.Append("c")
	d.Crash(nil)
	l = opened(t, d, 0)
	wantLog(t, l, 1, []string{"a", "b"}, 2)
	want(t, "Reset", l.Reset(9), api.OK)
	if n, e := l.Append("d"); n != 10 || e != api.OK {
		t.Errorf("Append: %d, error %d", n, e)
	}
}

// Promise 5.1: on a disk without segments there is a log without records, at each base; nothing is written.
func TestOpenNew(t *testing.T) {
	for _, base := range []int{0, 1, 15, 16, 1000, 99999997, 99999998} {
		d := disk.New(0)
		wantWrites(t, d, "Open", 0, func() { wantLog(t, opened(t, d, base), base+1, nil, base) })
		d.Crash(nil)
		wantFiles(t, d, nil)
	}
}

// Promise 5.1: ErrRange beside a base that is none, ahead of ErrDead; nothing is removed then.
func TestOpenRange(t *testing.T) {
	files := map[string]string{named(1): "", named(7): part(7, 8)}
	for _, dead := range []bool{false, true} {
		for _, base := range []int{-1, -2, math.MinInt, 99999999, 100000000, math.MaxInt} {
			d := lasting(t, files)
			if dead {
				d.Fuse(0)
				d.SyncNames()
			}
			if l, e := Open(d, base); l != nil || e != api.ErrRange {
				t.Errorf("Open(%d): %v, error %d", base, l, e)
			}
			d.Crash(nil)
			wantFiles(t, d, files)
		}
	}
}

// Promise 5.1: ErrDead without power; with a fuse that is burnt there is power, till there is something to write.
func TestOpenDead(t *testing.T) {
	for _, name := range []string{named(1), named(2)} {
		d := lasting(t, map[string]string{name: part(1, 3)})
		d.Fuse(0)
		l, e := Open(d, 0)
		if name == named(1) {
			must(t, e)
			wantLog(t, l, 1, row(1, 3), 3)
			d.SyncNames()
			l, e = Open(d, 0)
		}
		if l != nil || e != api.ErrDead {
			t.Errorf("Open: %v, error %d", l, e)
		}
	}
	d := disk.New(10)
	d.Fuse(0)
	d.SyncNames()
	if l, e := Open(d, 5); l != nil || e != api.ErrDead {
		t.Errorf("Open of a new disk: %v, error %d", l, e)
	}
}

// Promise 5.1: which names are those of segments; files of others are let be, and their records are not the log's.
func TestOpenNames(t *testing.T) {
	for _, name := range []string{"w00000000", "w0000001", "w000000001", "w1", "w", "w0000000a", "w-0000001", "w00000001.", "x00000001", "00000001", "v00000001", "w0x000001", "w00000.01", "w0000001-", "ww0000001", "t", "manifest", "w99999999999999999999"} {
		d := lasting(t, map[string]string{name: part(1, 3)})
		wantLog(t, opened(t, d, 0), 1, nil, 0)
		wantFiles(t, d, map[string]string{name: part(1, 3)})
		d = lasting(t, map[string]string{name: part(1, 3), named(1): part(1, 2), named(4): part(4, 5)})
		wantLog(t, opened(t, d, 0), 1, row(1, 2), 2)
		wantFiles(t, d, map[string]string{name: part(1, 3), named(1): part(1, 2)})
	}
	for _, first := range []int{1, 9, 10, 16, 99, 100, 999, 12345678, 87654321, 9999999, 10000000, 99999998, 99999999} {
		d := lasting(t, map[string]string{named(first): part(first, first+2)})
		wantLog(t, opened(t, d, first-1), first, row(first, first+2), first+2)
	}
}

// spoilt is a text of which a bit of one byte is changed.
func spoilt(s string, at int) string {
	b := []byte(s)
	b[at] ^= 16
	return string(b)
}

// ofKind is a frame of another kind than records' are.
func ofKind(kind int, data string) string {
	s, _ := frame.Put(frame.Frame{Kind: kind, Data: data})
	return s
}

// Promise 5.1: what of a segment is good: the frames of the kind 1 from the front on, whatever is behind; that is let be.
func TestOpenGoodPart(t *testing.T) {
	three := part(1, 3)
	two := part(1, 2)
	for _, c := range []struct {
		bytes string
		count int
	}{
		{"", 0},
		{"\x00", 0},
		{"\x01", 0},
		{"junk", 0},
		{three, 3},
		{three + "\x00", 3},
		{three + "\x01", 3},
		{three + "junk" + part(4, 5), 3},
		{three[:len(three)-1], 2},
		{three[:len(two)+1], 2},
		{three[:len(two)], 2},
		{three[:len(two)-1], 1},
		{three[:1], 0},
		{spoilt(three, 0), 0},
		{spoilt(three, 3), 0},
		{spoilt(three, len(two)), 2},
		{spoilt(three, len(two)-1), 1},
		{spoilt(three, len(three)-1), 2},
		{two + ofKind(2, told(3)) + part(3, 4), 2},
		{two + ofKind(255, "") + part(3, 4), 2},
		{ofKind(2, told(1)) + three, 0},
		{framed(""), 1},
		{framed("", "", "\x00", "\xff\x01\x01\x01"), 4},
		{part(1, 15), 15},
		{part(1, 16), 16},
		{part(1, 17), 17},
		{part(1, 300), 300},
		{framed(strings.Repeat("x", 1<<16), "y"), 2},
	} {
		frames, _, _ := frame.Scan(c.bytes)
		var records []string
		for _, f := range frames[:c.count] {
			records = append(records, f.Data)
		}
		d := lasting(t, map[string]string{named(1): c.bytes})
		wantLog(t, opened(t, d, 0), 1, records, c.count)
		if c.count > 0 {
			wantFiles(t, d, map[string]string{named(1): c.bytes})
		} else {
			wantFiles(t, d, nil)
		}
	}
}

// Promise 5.1: which segments belong to the log.
func TestOpenBelongs(t *testing.T) {
	for _, c := range []struct {
		what        string
		base        int
		files       map[int]string
		first, last int
		stay        int
	}{
		{"one", 0, map[int]string{1: part(1, 3)}, 1, 3, 1},
		{"begins behind base + 1", 0, map[int]string{2: part(2, 3)}, 1, 0, 0},
		{"begins behind base + 1", 6, map[int]string{8: part(8, 9), 10: part(10, 11)}, 7, 6, 0},
		{"begins at base + 1", 6, map[int]string{7: part(7, 9)}, 7, 9, 1},
		{"begins at base", 7, map[int]string{7: part(7, 9)}, 7, 9, 1},
		{"begins far ahead of base", 8, map[int]string{1: part(1, 9)}, 1, 9, 1},
		{"ends at base", 9, map[int]string{7: part(7, 9)}, 7, 9, 1},
		{"ends ahead of base", 10, map[int]string{7: part(7, 9)}, 11, 10, 0},
		{"ends far ahead of base", 99999998, map[int]string{7: part(7, 9)}, 99999999, 99999998, 0},
		{"two", 0, map[int]string{1: part(1, 2), 3: part(3, 3)}, 1, 3, 2},
		{"the second one makes it up to base", 3, map[int]string{1: part(1, 2), 3: part(3, 3)}, 1, 3, 2},
		{"two end ahead of base", 4, map[int]string{1: part(1, 2), 3: part(3, 3)}, 5, 4, 0},
		{"the second one begins at base + 1", 2, map[int]string{1: part(1, 2), 3: part(3, 3)}, 1, 3, 2},
		{"a gap", 0, map[int]string{1: part(1, 2), 4: part(4, 5)}, 1, 2, 1},
		{"a gap, the one behind it begins at base + 1", 3, map[int]string{1: part(1, 2), 4: part(4, 5)}, 4, 3, 0},
		{"a gap, and one behind that fits the second one", 0, map[int]string{1: part(1, 2), 4: part(4, 5), 6: part(6, 6)}, 1, 2, 1},
		{"they overlap", 0, map[int]string{1: part(1, 3), 3: part(3, 5)}, 1, 3, 1},
		{"they overlap, and the third one fits the first one", 0, map[int]string{1: part(1, 3), 3: part(3, 5), 4: part(4, 7)}, 1, 3, 1},
		{"the first one is within base", 4, map[int]string{1: part(1, 3), 3: part(3, 5)}, 5, 4, 0},
		{"the first one has none", 0, map[int]string{1: "", 2: part(2, 3)}, 1, 0, 0},
		{"the first one has none, the second one has its number", 1, map[int]string{1: "", 2: part(2, 3)}, 2, 1, 0},
		{"the second one has none", 0, map[int]string{1: part(1, 2), 3: "junk", 4: part(4, 4)}, 1, 2, 1},
		{"the second one has none, and base is behind", 3, map[int]string{1: part(1, 2), 3: "junk", 4: part(4, 4)}, 4, 3, 0},
		{"the first one is torn", 0, map[int]string{1: part(1, 2) + "\x01\x01", 3: part(3, 4)}, 1, 4, 2},
		{"the first one is torn, and the second one does not fit", 0, map[int]string{1: part(1, 2) + part(3, 3)[:3], 4: part(4, 4)}, 1, 2, 1},
		{"four, the last one torn", 2, map[int]string{2: part(2, 17), 18: part(18, 33), 34: part(34, 34), 35: part(35, 36)[:9]}, 2, 34, 3},
		{"more than 16", 20, map[int]string{1: part(1, 40), 41: part(41, 90), 91: part(91, 91)}, 1, 91, 3},
		{"more than 16, and one that would fit 16", 20, map[int]string{1: part(1, 40), 17: part(17, 17)}, 1, 40, 1},
		{"the last number", 99999998, map[int]string{99999999: part(99999999, 99999999)}, 99999999, 99999999, 1},
		{"beyond the last number", 99999998, map[int]string{99999990: part(99999990, 100000020)}, 99999990, 100000020, 1},
		{"beyond the last number", 99999998, map[int]string{99999998: part(99999998, 99999998), 99999999: part(99999999, 100000001)}, 99999998, 100000001, 2},
	} {
		files, stay := map[string]string{}, map[string]string{}
		for i, first := range slices.Sorted(maps.Keys(c.files)) {
			files[named(first)] = c.files[first]
			if i < c.stay {
				stay[named(first)] = c.files[first]
			}
		}
		t.Run(c.what, func(t *testing.T) {
			d := lasting(t, files)
			removed := len(files) - len(stay)
			if removed > 0 {
				removed++
			}
			wantWrites(t, d, "Open", removed, func() {
				wantLog(t, opened(t, d, c.base), c.first, row(c.first, c.last), c.last)
				wantFiles(t, d, stay)
			})
			d.Crash(nil)
			wantFiles(t, d, stay)
			wantLog(t, opened(t, d, c.base), c.first, row(c.first, c.last), c.last)
		})
	}
}

// Promise 5.1: those that do not belong are removed in the order of their numbers, and then the names are synced; an error is the answer, with no log.
func TestOpenRemoves(t *testing.T) {
	files := map[string]string{"a": "", "t": "x", named(1): part(1, 2), named(4): part(4, 5), named(9): part(9, 9), named(10): part(10, 10)}
	order := []string{named(4), named(9), named(10)}
	for fuse := range 5 {
		for keep := range 4 {
			d := lasting(t, files)
			d.Fuse(fuse)
			l, e := Open(d, 0)
			gone := min(fuse, 3)
			if fuse < 4 {
				if l != nil || e != api.ErrDead {
					t.Errorf("fuse %d: %v, error %d", fuse, l, e)
				}
				gone = keep % (gone + 1)
			} else {
				must(t, e)
				wantLog(t, l, 1, row(1, 2), 2)
			}
			d.Crash([]int{keep})
			left := maps.Clone(files)
			for _, name := range order[:gone] {
				delete(left, name)
			}
			wantFiles(t, d, left)
		}
	}
}

// Promise 5.1: the names are synced if one is removed, and else they are not.
func TestOpenSyncsNames(t *testing.T) {
	for _, other := range []int{3, 4} {
		d := lasting(t, map[string]string{named(1): part(1, 2), named(other): part(3, 3)})
		must(t, d.Append("a", ""))
		opened(t, d, 0)
		d.Crash(nil)
		if other == 3 {
			wantFiles(t, d, map[string]string{named(1): part(1, 2), named(3): part(3, 3)})
		} else {
			wantFiles(t, d, map[string]string{named(1): part(1, 2), "a": ""})
		}
	}
}

// Promise 5.1: what was read is told to last, and nothing of it is synced, also where there was no crash.
func TestOpenWithoutCrash(t *testing.T) {
	d, l := begun(t, 0)
	appendUpTo(t, l, 20)
	wantNumbers(t, l, 1, 20, 0)
	l = opened(t, d, 0)
	wantLog(t, l, 1, row(1, 20), 20)
	wantWrites(t, d, "Sync", 0, func() { want(t, "Sync", l.Sync(), api.OK) })
}

// Promise 5.1: records are read from the disk: without power those that there are, are ErrDead, and the others ErrNone.
func TestReadDead(t *testing.T) {
	d, l := begun(t, 4)
	appendUpTo(t, l, 22)
	d.Fuse(0)
	wantLog(t, l, 5, row(5, 22), 4)
	want(t, "Sync", l.Sync(), api.ErrDead)
	for n := 5; n <= 22; n++ {
		wantRead(t, l, n, "", api.ErrDead)
	}
	for _, n := range []int{-1, 0, 4, 23, math.MinInt, math.MaxInt} {
		wantRead(t, l, n, "", api.ErrNone)
	}
	wantNumbers(t, l, 5, 22, 4)
}

// Promise 5.1: two logs, each on a disk of its own, know nothing of one another.
func TestTwoLogs(t *testing.T) {
	_, a := begun(t, 0)
	_, b := begun(t, 10)
	appendUpTo(t, a, 3)
	wantLog(t, b, 11, nil, 10)
	appendUpTo(t, b, 30)
	must(t, b.Sync(), a.Reset(5))
	wantLog(t, b, 11, row(11, 30), 30)
	wantLog(t, a, 6, nil, 5)
}

// Promise 5.2: records get the next numbers, and stand in segments of 16, each one in a frame of the kind 1.
func TestAppend(t *testing.T) {
	for _, base := range []int{0, 1, 9, 15, 16, 17, 99999900} {
		d, l := begun(t, base)
		files := map[string]string{}
		for i := range 60 {
			first := base + 1 + i/16*16
			appendUpTo(t, l, base+1+i)
			files[named(first)] = part(first, base+1+i)
			wantFiles(t, d, files)
			wantNumbers(t, l, base+1, base+1+i, base)
		}
		wantLog(t, l, base+1, row(base+1, base+60), base)
		wantLog(t, opened(t, d, base), base+1, row(base+1, base+60), base+60)
	}
}

// Promise 5.2: a record is any bytes, and as many as MaxText.
func TestAppendTexts(t *testing.T) {
	texts := []string{"", "\x00", "\xff\xfe", framed("a", "b"), "β\n", strings.Repeat("x", 65535), strings.Repeat("y", 65536), "", "z"}
	for c := range 256 {
		texts = append(texts, string([]byte{byte(c)}))
	}
	d, l := begun(t, 0)
	for i, s := range texts {
		if n, e := l.Append(s); n != i+1 || e != api.OK {
			t.Errorf("Append(%.20q): %d, error %d", s, n, e)
		}
	}
	wantLog(t, l, 1, texts, 0)
	wantLog(t, opened(t, d, 0), 1, texts, len(texts))
}

// wantRefused tells whether a record is refused, and nothing has changed then.
func wantRefused(t *testing.T, d *disk.Disk, l *Log, s string, e api.Errno) {
	t.Helper()
	first, last, durable, names, used := l.First(), l.Last(), l.Durable(), d.Names(), d.Used()
	if n, f := l.Append(s); n != 0 || f != e {
		t.Errorf("Append(%.20q): %d, error %d; want error %d", s, n, f, e)
	}
	wantNumbers(t, l, first, last, durable)
	if d.Used() != used || d.Up() && !slices.Equal(d.Names(), names) {
		t.Errorf("the disk has %d bytes in %q, and had %d in %q", d.Used(), d.Names(), used, names)
	}
}

// Promise 5.2: what is too long is refused, ahead of all else, and writes nothing.
func TestAppendLong(t *testing.T) {
	for _, n := range []int{65537, 65538, 1 << 20} {
		d, l := begun(t, 0)
		long := strings.Repeat("x", n)
		wantRefused(t, d, l, long, api.ErrLong)
		appendUpTo(t, l, 3)
		wantRefused(t, d, l, long, api.ErrLong)
		appendUpTo(t, l, 16)
		wantRefused(t, d, l, long, api.ErrLong)
		appendUpTo(t, l, 17)
		wantFiles(t, d, map[string]string{named(1): part(1, 16), named(17): part(17, 17)})
		wantWrites(t, d, "Append", 0, func() { wantRefused(t, d, l, long, api.ErrLong) })
		wantRefused(t, d, l, long, api.ErrLong)
		wantRefused(t, d, l, "short", api.ErrDead)
	}
}

// Promise 5.2: the last number is 99999999; behind it all is refused, ahead of the disk's error.
func TestAppendLastNumber(t *testing.T) {
	d, l := begun(t, 99999980)
	appendUpTo(t, l, 99999999)
	files := map[string]string{named(99999981): part(99999981, 99999996), named(99999997): part(99999997, 99999999)}
	wantWrites(t, d, "Append", 0, func() {
		wantRefused(t, d, l, "x", api.ErrFull)
		wantRefused(t, d, l, strings.Repeat("x", 65537), api.ErrLong)
		wantFiles(t, d, files)
		wantLog(t, l, 99999981, row(99999981, 99999999), 99999980)
	})
	wantRefused(t, d, l, "x", api.ErrFull)

	for _, last := range []int{99999999, 100000000, 100000030} {
		d = lasting(t, map[string]string{named(99999990): part(99999990, last)})
		l = opened(t, d, 99999990)
		wantWrites(t, d, "Append", 0, func() { wantRefused(t, d, l, "x", api.ErrFull) })
		d.Crash(nil)
		l = opened(t, d, 99999990)
		must(t, l.CutAfter(99999998))
		appendUpTo(t, l, 99999999)
		wantLog(t, l, 99999990, row(99999990, 99999999), 99999998)
	}
}

// Promise 5.2: where the disk has no room nothing has changed; where it has room again the record goes where it would have gone.
func TestAppendNoRoom(t *testing.T) {
	for _, count := range []int{0, 1, 15, 16, 17, 31, 32} {
		d := disk.New(1000)
		l := opened(t, d, 0)
		appendUpTo(t, l, count)
		must(t, d.Append("x", strings.Repeat("x", 1000-d.Used()-5)))
		wantRefused(t, d, l, "", api.ErrFull)
		wantRefused(t, d, l, "a", api.ErrFull)
		must(t, d.Remove("x"))
		appendUpTo(t, l, 33)
		wantFiles(t, d, map[string]string{named(1): part(1, 16), named(17): part(17, 32), named(33): part(33, 33)})
		wantLog(t, l, 1, row(1, 33), 0)
	}
}

// Promise 5.2: where the disk has no name left, a segment that is in hand is still written to, and a new one is refused.
func TestAppendNoName(t *testing.T) {
	d, l := begun(t, 0)
	appendUpTo(t, l, 3)
	for i := range 63 {
		must(t, d.Append(fmt.Sprintf("f%d", i), ""))
	}
	appendUpTo(t, l, 16)
	wantRefused(t, d, l, "x", api.ErrFull)
	wantRefused(t, d, l, "x", api.ErrFull)
	must(t, d.Remove("f7"))
	appendUpTo(t, l, 32)
	wantRefused(t, d, l, "x", api.ErrFull)
	wantLog(t, l, 1, row(1, 32), 0)
}

// Promise 5.2: without power nothing is appended and nothing is synced; with a fuse a record is one write.
func TestAppendDead(t *testing.T) {
	for fuse := range 40 {
		d, l := begun(t, 0)
		d.Fuse(fuse)
		for n := 1; n <= fuse; n++ {
			appendUpTo(t, l, n)
		}
		wantRefused(t, d, l, "x", api.ErrDead)
		if fuse > 0 {
			want(t, "Sync", l.Sync(), api.ErrDead)
		}
		wantNumbers(t, l, 1, fuse, 0)
	}
}

// Promise 5.2: which segment is in hand: none behind Open, CutAfter and Reset, also where these do nothing; DropBefore, Sync and what is refused change nothing of it.
func TestInHand(t *testing.T) {
	for _, c := range []struct {
		what   string
		do     func(l *Log) api.Errno
		answer api.Errno
		files  map[string]string
	}{
		{"nothing", func(l *Log) api.Errno { return api.OK }, api.OK, map[string]string{named(1): part(1, 16), named(17): part(17, 20)}},
		{"Sync", (*Log).Sync, api.OK, map[string]string{named(1): part(1, 16), named(17): part(17, 20)}},
		{"DropBefore", func(l *Log) api.Errno { return l.DropBefore(17) }, api.OK, map[string]string{named(17): part(17, 20)}},
		{"DropBefore all", func(l *Log) api.Errno { return l.DropBefore(100) }, api.OK, map[string]string{named(17): part(17, 20)}},
		{"Reset that is refused", func(l *Log) api.Errno { return l.Reset(-1) }, api.ErrRange, map[string]string{named(1): part(1, 16), named(17): part(17, 20)}},
		{"CutAfter that is refused", func(l *Log) api.Errno { return l.CutAfter(20) }, api.ErrRange, map[string]string{named(1): part(1, 16), named(17): part(17, 20)}},
		{"CutAfter the last one", func(l *Log) api.Errno { return l.CutAfter(19) }, api.OK, map[string]string{named(1): part(1, 16), named(17): part(17, 19), named(20): part(20, 20)}},
		{"CutAfter one ahead of it", func(l *Log) api.Errno { return l.CutAfter(18) }, api.OK, map[string]string{named(1): part(1, 16), named(17): part(17, 18), named(19): part(19, 20)}},
		{"CutAfter a whole segment", func(l *Log) api.Errno { return l.CutAfter(16) }, api.OK, map[string]string{named(1): part(1, 16), named(17): part(17, 20)}},
		{"CutAfter within the first segment", func(l *Log) api.Errno { return l.CutAfter(15) }, api.OK, map[string]string{named(1): part(1, 15), named(16): part(16, 20)}},
		{"CutAfter all", func(l *Log) api.Errno { return l.CutAfter(0) }, api.OK, map[string]string{named(1): part(1, 16), named(17): part(17, 20)}},
		{"Reset", func(l *Log) api.Errno { return l.Reset(18) }, api.OK, map[string]string{named(19): part(19, 20)}},
	} {
		t.Run(c.what, func(t *testing.T) {
			d, l := begun(t, 0)
			appendUpTo(t, l, 19)
			want(t, c.what, c.do(l), c.answer)
			appendUpTo(t, l, 20)
			wantFiles(t, d, c.files)
		})
	}
	for _, count := range []int{1, 2, 15, 16, 17} {
		d := lasting(t, map[string]string{named(1): part(1, count) + "torn"})
		l := opened(t, d, 0)
		appendUpTo(t, l, count+2)
		wantFiles(t, d, map[string]string{named(1): part(1, count) + "torn", named(count + 1): part(count+1, count+2)})
		wantLog(t, l, 1, row(1, count+2), count)
	}
}

// Promise 5.2: Sync syncs each segment that was written to since, and the names, if one was begun; then all lasts.
func TestSync(t *testing.T) {
	for from := range 36 {
		for to := from; to < 36; to++ {
			d, l := begun(t, 0)
			appendUpTo(t, l, from)
			must(t, l.Sync())
			wantNumbers(t, l, 1, from, from)
			appendUpTo(t, l, to)
			wantNumbers(t, l, 1, to, from)
			touched, begins := map[int]bool{}, 0
			for n := from; n < to; n++ {
				touched[n/16] = true
				if n%16 == 0 {
					begins = 1
				}
			}
			wantWrites(t, d, fmt.Sprintf("Sync from %d to %d", from, to), len(touched)+begins, func() { want(t, "Sync", l.Sync(), api.OK) })
			d.Crash(nil)
			wantLog(t, opened(t, d, 0), 1, row(1, to), to)
		}
	}
}

// Promise 5.2: Sync goes by the order of the numbers, the names last; it ends at the first error, and then Durable is what it was.
func TestSyncOrder(t *testing.T) {
	for fuse := range 6 {
		for keepNames := range 4 {
			d, l := begun(t, 0)
			appendUpTo(t, l, 2)
			must(t, l.Sync())
			appendUpTo(t, l, 40)
			d.Fuse(fuse)
			e := l.Sync()
			files := map[string]string{named(1): part(1, 2)}
			if fuse > 0 {
				files[named(1)] = part(1, 16)
			}
			if fuse < 4 {
				want(t, "Sync", e, api.ErrDead)
				wantNumbers(t, l, 1, 40, 2)
				for i, s := range []string{part(17, 32), part(33, 40)}[:keepNames%3] {
					if fuse < i+2 {
						s = ""
					}
					files[named(17+16*i)] = s
				}
			} else {
				must(t, e)
				wantNumbers(t, l, 1, 40, 40)
				files[named(17)], files[named(33)] = part(17, 32), part(33, 40)
			}
			d.Crash([]int{keepNames})
			wantFiles(t, d, files)
		}
	}
}

// Promise 5.2: to sync what is synced already writes nothing.
func TestSyncAgain(t *testing.T) {
	d, l := begun(t, 0)
	wantWrites(t, d, "Sync of nothing", 0, func() { want(t, "Sync", l.Sync(), api.OK) })
	want(t, "Sync of nothing, without power", l.Sync(), api.OK)
	d, l = begun(t, 0)
	appendUpTo(t, l, 20)
	must(t, l.Sync())
	wantWrites(t, d, "Sync again", 0, func() { want(t, "Sync", l.Sync(), api.OK) })
	want(t, "Sync again, without power", l.Sync(), api.OK)
	wantNumbers(t, l, 1, 20, 20)
}

// Promise 5.2: who takes marks away, and who does not.
func TestMarks(t *testing.T) {
	for _, c := range []struct {
		what  string
		do    func(l *Log) api.Errno
		count int
	}{
		{"nothing", func(l *Log) api.Errno { return api.OK }, 4},
		{"DropBefore of none", func(l *Log) api.Errno { return l.DropBefore(16) }, 4},
		{"DropBefore of one: the names' mark stays", func(l *Log) api.Errno { return l.DropBefore(17) }, 3},
		{"DropBefore of all but the last one", func(l *Log) api.Errno { return l.DropBefore(1000) }, 2},
		{"CutAfter that does nothing", func(l *Log) api.Errno { return l.CutAfter(40) }, 4},
		{"CutAfter within the last one: the segment's mark stays", func(l *Log) api.Errno { return l.CutAfter(39) }, 3},
		{"CutAfter of the last one", func(l *Log) api.Errno { return l.CutAfter(32) }, 2},
		{"CutAfter within the second one", func(l *Log) api.Errno { return l.CutAfter(17) }, 2},
		{"CutAfter within the first one", func(l *Log) api.Errno { return l.CutAfter(1) }, 1},
		{"CutAfter of all", func(l *Log) api.Errno { return l.CutAfter(0) }, 0},
		{"Reset", func(l *Log) api.Errno { return l.Reset(40) }, 0},
		{"Reset, and a record", func(l *Log) api.Errno {
			e := l.Reset(3)
			l.Append("x")
			return e
		}, 2},
		{"CutAfter, and a record", func(l *Log) api.Errno {
			e := l.CutAfter(39)
			l.Append("x")
			return e
		}, 5},
		{"CutAfter of all, and a record", func(l *Log) api.Errno {
			e := l.CutAfter(0)
			l.Append("x")
			return e
		}, 2},
	} {
		d, l := begun(t, 0)
		appendUpTo(t, l, 40)
		want(t, c.what, c.do(l), api.OK)
		wantWrites(t, d, c.what+": Sync", c.count, func() { want(t, c.what, l.Sync(), api.OK) })
		if l.Durable() != l.Last() {
			t.Errorf("%s: Durable %d, Last %d", c.what, l.Durable(), l.Last())
		}
	}
	// A segment that was synced and is cut has no mark, and gets none by that.
	d, l := begun(t, 0)
	appendUpTo(t, l, 40)
	must(t, l.Sync(), l.CutAfter(20))
	wantWrites(t, d, "Sync behind CutAfter", 0, func() { want(t, "Sync", l.Sync(), api.OK) })
}

// Promise 5.3: which segments DropBefore takes, and how many writes that is; all others stay, and so do the last number and the durable one.
func TestDropBefore(t *testing.T) {
	begins := []int{6, 22, 38, 54}
	for n := -3; n < 80; n++ {
		testDrop(t, begins, n)
	}
	for _, n := range []int{math.MinInt, math.MaxInt, 99999999, 100000000} {
		testDrop(t, begins, n)
	}
}

func testDrop(t *testing.T, begins []int, n int) {
	t.Helper()
	d, l := begun(t, 5)
	appendUpTo(t, l, 10)
	must(t, l.Sync())
	appendUpTo(t, l, 60)
	files := map[string]string{}
	first := 0
	for i, begin := range begins {
		last := 60
		if i < 3 {
			last = begins[i+1] - 1
		}
		if i == 3 || last >= n {
			files[named(begin)] = part(begin, last)
			if first == 0 {
				first = begin
			}
		}
	}
	count := 4 - len(files)
	if count > 0 {
		count++
	}
	wantWrites(t, d, fmt.Sprintf("DropBefore(%d)", n), count, func() {
		want(t, "DropBefore", l.DropBefore(n), api.OK)
		wantFiles(t, d, files)
		wantLog(t, l, first, row(first, 60), 10)
	})
	// There is no power any more: what has nothing to remove does not see it.
	want(t, "DropBefore again", l.DropBefore(n), api.OK)
}

// Promise 5.3: with no segment, and with one alone, DropBefore does nothing.
func TestDropBeforeLastOne(t *testing.T) {
	for _, last := range []int{7, 8, 23} {
		for _, n := range []int{-1, 0, 7, 8, 24, 100, math.MaxInt} {
			d, l := begun(t, 7)
			appendUpTo(t, l, last)
			wantWrites(t, d, "DropBefore", 0, func() {
				want(t, "DropBefore", l.DropBefore(n), api.OK)
				wantLog(t, l, 8, row(8, last), 7)
			})
			want(t, "DropBefore without power", l.DropBefore(n), api.OK)
		}
	}
}

// Promise 5.3: segments are removed from the first one on, then the names are synced; behind an error those that were removed are no longer the log's.
func TestDropBeforeErrors(t *testing.T) {
	for fuse := range 6 {
		for keep := range 4 {
			d, l := begun(t, 0)
			appendUpTo(t, l, 60)
			must(t, l.Sync())
			d.Fuse(fuse)
			e := l.DropBefore(50)
			gone := min(fuse, 3)
			if fuse < 4 {
				want(t, "DropBefore", e, api.ErrDead)
			} else {
				must(t, e)
			}
			wantNumbers(t, l, 1+16*gone, 60, 60)
			wantRead(t, l, 16*gone, "", api.ErrNone)
			if fuse < 4 {
				wantRead(t, l, 16*gone+1, "", api.ErrDead)
				gone = keep % (gone + 1)
			}
			d.Crash([]int{keep})
			files := map[string]string{named(1): part(1, 16), named(17): part(17, 32), named(33): part(33, 48), named(49): part(49, 60)}
			for i := range gone {
				delete(files, named(1+16*i))
			}
			wantFiles(t, d, files)
		}
	}
}

// Promise 5.3: records go on behind a DropBefore, and it opens anew.
func TestDropBeforeAndOn(t *testing.T) {
	d, l := begun(t, 0)
	appendUpTo(t, l, 40)
	must(t, l.Sync(), l.DropBefore(20))
	wantLog(t, l, 17, row(17, 40), 40)
	appendUpTo(t, l, 50)
	must(t, l.DropBefore(34), l.Sync())
	files := map[string]string{named(33): part(33, 48), named(49): part(49, 50)}
	wantFiles(t, d, files)
	d.Crash(nil)
	wantLog(t, opened(t, d, 32), 33, row(33, 50), 50)
	wantLog(t, opened(t, d, 50), 33, row(33, 50), 50)
	wantFiles(t, d, files)
	wantLog(t, opened(t, d, 31), 32, nil, 31)
	wantFiles(t, d, nil)
}

// cutFiles is the segments that are left of records from 6 to 60, when they are cut.
func cutFiles(n int) map[string]string {
	files := map[string]string{}
	for begin := 6; begin <= n; begin += 16 {
		files[named(begin)] = part(begin, min(begin+15, n))
	}
	return files
}

// Promise 5.3: what is left behind a CutAfter, at each number, and that it lasts.
func TestCutAfter(t *testing.T) {
	for n := 5; n <= 60; n++ {
		for _, synced := range []int{5, 20, 60} {
			d, l := begun(t, 5)
			appendUpTo(t, l, synced)
			must(t, l.Sync())
			appendUpTo(t, l, 60)
			want(t, "CutAfter", l.CutAfter(n), api.OK)
			durable := n
			if n == 60 {
				durable = synced
			}
			wantLog(t, l, 6, row(6, n), durable)
			wantFiles(t, d, cutFiles(n))
			if synced == 60 {
				d.Crash(nil)
				wantFiles(t, d, cutFiles(n))
				l = opened(t, d, 5)
				wantLog(t, l, 6, row(6, n), n)
			}
			appendUpTo(t, l, n+18)
			wantLog(t, l, 6, row(6, n+18), durable)
			must(t, l.Sync())
			d.Crash(nil)
			wantLog(t, opened(t, d, 5), 6, row(6, n+18), n+18)
		}
	}
}

// Promise 5.3: what is out of range is refused, ahead of all else, and changes nothing.
func TestCutAfterRange(t *testing.T) {
	d, l := begun(t, 5)
	appendUpTo(t, l, 60)
	must(t, l.Sync(), l.DropBefore(30))
	wantWrites(t, d, "CutAfter", 0, func() {
		for _, n := range []int{20, 19, 6, 5, 0, -1, math.MinInt, 61, 62, 99999999, math.MaxInt} {
			want(t, fmt.Sprintf("CutAfter(%d)", n), l.CutAfter(n), api.ErrRange)
			wantLog(t, l, 22, row(22, 60), 60)
		}
	})
	want(t, "no power", l.CutAfter(20), api.ErrRange)
	want(t, "no power", l.CutAfter(61), api.ErrRange)
	want(t, "no power", l.CutAfter(60), api.OK)
	want(t, "no power", l.CutAfter(59), api.ErrDead)

	d, l = begun(t, 5)
	want(t, "no records", l.CutAfter(4), api.ErrRange)
	want(t, "no records", l.CutAfter(6), api.ErrRange)
	wantWrites(t, d, "no records", 0, func() { want(t, "no records", l.CutAfter(5), api.OK) })
	wantLog(t, l, 6, nil, 5)
}

// Promise 5.3: all may be cut, from the first record that is left on; the next one takes its number then.
func TestCutAfterAll(t *testing.T) {
	d, l := begun(t, 0)
	appendUpTo(t, l, 40)
	must(t, l.Sync(), l.DropBefore(17), l.CutAfter(16))
	wantLog(t, l, 17, nil, 16)
	wantFiles(t, d, nil)
	want(t, "once more", l.CutAfter(16), api.OK)
	want(t, "ahead of it", l.CutAfter(15), api.ErrRange)
	appendUpTo(t, l, 18)
	wantFiles(t, d, map[string]string{named(17): part(17, 18)})
	wantLog(t, l, 17, row(17, 18), 16)
}

// Promise 5.3: a segment with more records than 16, with others, or with a spoilt end is cut as it is found.
func TestCutAfterFound(t *testing.T) {
	for n := range 42 {
		d := lasting(t, map[string]string{named(1): part(1, 30) + "junk", named(31): part(31, 41) + "\x01", "t": "old"})
		l := opened(t, d, 0)
		must(t, l.CutAfter(n))
		wantLog(t, l, 1, row(1, n), min(n, 41))
		files := map[string]string{"t": "old"}
		switch {
		case n == 41:
			files[named(1)], files[named(31)] = part(1, 30)+"junk", part(31, 41)+"\x01"
		case n > 30:
			files = map[string]string{named(1): part(1, 30) + "junk", named(31): part(31, n)}
		case n == 30:
			files[named(1)] = part(1, 30) + "junk"
		case n > 0:
			files = map[string]string{named(1): part(1, n)}
		}
		wantFiles(t, d, files)
	}
}

// state is files, and what is in them.
type state map[string]string

// Promise 5.3: the steps of a CutAfter, one by one: after each the power may fail, and what is on the disk then is told by how many of the names' changes are kept.
func TestCutAfterSteps(t *testing.T) {
	a, b, c := named(1), named(17), named(33)
	whole := state{a: part(1, 16), b: part(17, 32), c: part(33, 40)}
	for _, old := range []bool{false, true} {
		states := []state{whole, {a: part(1, 16), b: part(17, 32)}, {a: part(1, 16)}}
		if old {
			for _, s := range states {
				s["t"] = "old"
			}
			states = append(states, state{a: part(1, 16)})
		}
		made := len(states)
		states = append(states, state{a: part(1, 16), "t": part(1, 7)}, state{a: part(1, 7)})
		// The writes: those up to the one that makes t are each a change of names; then t is synced, renamed, and the names are synced.
		count := made + 3
		for fuse := range count + 2 {
			for keep := range len(states) {
				d := lasting(t, states[0])
				l := opened(t, d, 0)
				d.Fuse(fuse)
				e := l.CutAfter(7)
				changes := min(fuse, made)
				if fuse >= made+2 {
					changes++
				}
				at := keep % (changes + 1)
				if fuse >= count {
					must(t, e)
					wantNumbers(t, l, 1, 7, 7)
					at = len(states) - 1
				} else {
					want(t, "CutAfter", e, api.ErrDead)
				}
				d.Crash([]int{keep})
				files := maps.Clone(states[at])
				if at == made && fuse < made+1 {
					files["t"] = ""
				}
				wantFiles(t, d, files)
			}
		}
	}
}

// Promise 5.3: what a disk without room, and one without names, answers to a CutAfter that needs to write, and to one that needs not to.
func TestCutAfterFull(t *testing.T) {
	for _, c := range []struct {
		room, files, n int
		e              api.Errno
	}{
		{len(part(1, 20)) + len(part(17, 18)), 0, 18, api.OK},
		{len(part(1, 20)) + len(part(17, 18)) - 1, 0, 18, api.ErrFull},
		{len(part(1, 20)), 0, 18, api.ErrFull},
		{len(part(1, 20)), 0, 16, api.OK},
		{len(part(1, 16)) + len(part(1, 15)), 0, 15, api.OK},
		{len(part(1, 16)) + len(part(1, 15)) - 1, 0, 15, api.ErrFull},
		{1000, 61, 18, api.OK},
		{1000, 62, 18, api.ErrFull},
		{1000, 62, 16, api.OK},
		{1000, 62, 15, api.OK},
	} {
		d := disk.New(c.room)
		l := opened(t, d, 0)
		appendUpTo(t, l, 20)
		for i := range c.files {
			must(t, d.Append(fmt.Sprintf("f%d", i), ""))
		}
		must(t, l.Sync())
		want(t, fmt.Sprintf("room %d, %d files, CutAfter(%d)", c.room, c.files, c.n), l.CutAfter(c.n), c.e)
		d.Crash(nil)
		if c.e == api.OK {
			wantLog(t, opened(t, d, 0), 1, row(1, c.n), c.n)
		} else {
			wantLog(t, opened(t, d, 0), 1, row(1, 20), 20)
		}
	}
}

// Promise 5.3: the file t is removed even where it is not needed to be, and needs its room no more then.
func TestCutAfterOldSpare(t *testing.T) {
	d := disk.New(300)
	l := opened(t, d, 0)
	appendUpTo(t, l, 10)
	must(t, d.Append("t", strings.Repeat("x", 300-d.Used())), l.CutAfter(9))
	wantFiles(t, d, map[string]string{named(1): part(1, 9)})
	must(t, d.Append("t", "x"), l.CutAfter(0))
	wantFiles(t, d, map[string]string{"t": "x"})
}

// Promise 5.3: Reset takes all away, at each number; the next record's is one more.
func TestReset(t *testing.T) {
	for _, n := range []int{0, 1, 4, 5, 6, 30, 39, 40, 41, 1000, 99999997, 99999998} {
		for _, last := range []int{5, 6, 21, 22, 40} {
			d, l := begun(t, 5)
			appendUpTo(t, l, last)
			must(t, d.Append("a", "x"), d.Append("t", "y"), d.Sync("a"))
			must(t, l.Reset(n))
			wantLog(t, l, n+1, nil, n)
			wantFiles(t, d, map[string]string{"a": "x", "t": "y"})
			appendUpTo(t, l, n+1)
			wantLog(t, l, n+1, row(n+1, n+1), n)
			must(t, l.Sync())
			d.Crash(nil)
			wantFiles(t, d, map[string]string{"a": "x", "t": "", named(n + 1): part(n+1, n+1)})
			wantLog(t, opened(t, d, n), n+1, row(n+1, n+1), n+1)
		}
	}
}

// Promise 5.3: a Reset to what is no base is refused, ahead of all else, and changes nothing.
func TestResetRange(t *testing.T) {
	d, l := begun(t, 5)
	appendUpTo(t, l, 40)
	wantWrites(t, d, "Reset", 0, func() {
		for _, n := range []int{-1, -2, math.MinInt, 99999999, 100000000, math.MaxInt} {
			want(t, fmt.Sprintf("Reset(%d)", n), l.Reset(n), api.ErrRange)
			wantLog(t, l, 6, row(6, 40), 5)
		}
	})
	want(t, "no power", l.Reset(99999999), api.ErrRange)
	want(t, "no power", l.Reset(0), api.ErrDead)
}

// Promise 5.3: the steps of a Reset: segments from the first one on, then the names, also where there is no segment.
func TestResetSteps(t *testing.T) {
	for count := range 4 {
		files := map[string]string{}
		for i := range count {
			files[named(1+16*i)] = part(1+16*i, 16+16*i)
		}
		for fuse := range count + 3 {
			for keep := range count + 1 {
				d := lasting(t, files)
				l := opened(t, d, 0)
				d.Fuse(fuse)
				e := l.Reset(3)
				gone := keep % (min(fuse, count) + 1)
				if fuse > count {
					must(t, e)
					wantNumbers(t, l, 4, 3, 3)
					gone = count
				} else {
					want(t, fmt.Sprintf("%d segments, fuse %d", count, fuse), e, api.ErrDead)
				}
				d.Crash([]int{keep})
				left := maps.Clone(files)
				for i := range gone {
					delete(left, named(1+16*i))
				}
				wantFiles(t, d, left)
			}
		}
	}
	d, l := begun(t, 0)
	wantWrites(t, d, "Reset of nothing", 1, func() { want(t, "Reset", l.Reset(0), api.OK) })
}

// plain is a log by another way: its records, and the numbers at which their segments begin, each by the record's number; and a disk of its own to which it writes as the chapter tells.
type plain struct {
	disk    *disk.Disk
	records map[int]string
	seats   map[int]int
	marked  map[int]bool
	names   bool
	hand    int
	last    int
	sure    int
}

var segmentName = regexp.MustCompile(`^w[0-9]{8}$`)

// inOrder does one step behind the other, up to the first error.
func inOrder(steps ...func() api.Errno) api.Errno {
	for _, step := range steps {
		if e := step(); e != api.OK {
			return e
		}
	}
	return api.OK
}

// plainGood is the records that stand whole at the front of a file.
func plainGood(d *disk.Disk, name string) []string {
	var good []string
	bytes, _ := d.Read(name)
	frames, _, _ := frame.Scan(bytes)
	for _, f := range frames {
		if f.Kind != 1 {
			break
		}
		good = append(good, f.Data)
	}
	return good
}

// plainOpen opens the plain log.
func plainOpen(d *disk.Disk, base int) (*plain, api.Errno) {
	if base < 0 || base >= 99999999 {
		return nil, api.ErrRange
	}
	if !d.Up() {
		return nil, api.ErrDead
	}
	p := &plain{disk: d, records: map[int]string{}, seats: map[int]int{}, marked: map[int]bool{}, last: base, sure: base}
	all := slices.DeleteFunc(d.Names(), func(name string) bool { return !segmentName.MatchString(name) || name == named(0) })
	stay, end := 0, 0
	for i, name := range all {
		begin, _ := strconv.Atoi(strings.TrimLeft(name, "w0"))
		good := plainGood(d, name)
		if len(good) == 0 || i == 0 && begin > base+1 || i > 0 && begin != end+1 {
			break
		}
		for i, s := range good {
			p.records[begin+i], p.seats[begin+i] = s, begin
		}
		stay++
		end = begin + len(good) - 1
	}
	if end < base {
		stay = 0
		clear(p.records)
		clear(p.seats)
	} else {
		p.last, p.sure = end, end
	}
	for _, name := range all[stay:] {
		if e := d.Remove(name); e != api.OK {
			return nil, e
		}
	}
	if stay < len(all) {
		if e := d.SyncNames(); e != api.OK {
			return nil, e
		}
	}
	return p, api.OK
}

func (p *plain) first() int { return slices.Min(append(slices.Collect(maps.Keys(p.seats)), p.last+1)) }

// begins is the numbers at which segments begin, rising.
func (p *plain) begins() []int { return slices.Compact(slices.Sorted(maps.Values(p.seats))) }

// numbers is those of a segment's records, rising.
func (p *plain) numbers(begin int) []int {
	var l []int
	for n, seat := range p.seats {
		if seat == begin {
			l = append(l, n)
		}
	}
	slices.Sort(l)
	return l
}

func (p *plain) append(s string) (int, api.Errno) {
	if len(s) > 65536 {
		return 0, api.ErrLong
	}
	if p.last >= 99999999 {
		return 0, api.ErrFull
	}
	begin := p.hand
	if begin == 0 || len(p.numbers(begin)) == 16 {
		begin = p.last + 1
	}
	if e := p.disk.Append(named(begin), framed(s)); e != api.OK {
		return 0, e
	}
	p.last++
	p.hand = begin
	p.names = p.names || begin == p.last
	p.records[p.last], p.seats[p.last] = s, begin
	p.marked[begin] = true
	return p.last, api.OK
}

func (p *plain) sync() api.Errno {
	for _, begin := range slices.Sorted(maps.Keys(p.marked)) {
		if e := p.disk.Sync(named(begin)); e != api.OK {
			return e
		}
		delete(p.marked, begin)
	}
	if p.names {
		if e := p.disk.SyncNames(); e != api.OK {
			return e
		}
		p.names = false
	}
	p.sure = p.last
	return api.OK
}

// forget takes records out, and not what is on the disk.
func (p *plain) forget(numbers []int) {
	for _, n := range numbers {
		delete(p.records, n)
		delete(p.seats, n)
	}
}

// remove removes segments, as they are told.
func (p *plain) remove(begins []int) api.Errno {
	for _, begin := range begins {
		if e := p.disk.Remove(named(begin)); e != api.OK {
			return e
		}
		p.forget(p.numbers(begin))
		delete(p.marked, begin)
	}
	return api.OK
}

func (p *plain) dropBefore(n int) api.Errno {
	var gone []int
	for i, begin := range p.begins() {
		if i < len(p.begins())-1 && slices.Max(p.numbers(begin)) < n {
			gone = append(gone, begin)
		}
	}
	if gone == nil {
		return api.OK
	}
	return inOrder(func() api.Errno { return p.remove(gone) }, p.disk.SyncNames)
}

func (p *plain) cutAfter(n int) api.Errno {
	if n < p.first()-1 || n > p.last {
		return api.ErrRange
	}
	p.hand = 0
	if n == p.last {
		return api.OK
	}
	gone := slices.DeleteFunc(p.begins(), func(begin int) bool { return begin <= n })
	slices.Reverse(gone)
	return inOrder(
		func() api.Errno { return p.remove(gone) },
		func() api.Errno { return p.rewrite(n) },
		func() api.Errno { return p.settle(n) },
	)
}

// rewrite writes the segment anew that has records up to a number, and behind it.
func (p *plain) rewrite(n int) api.Errno {
	if !hasKey(p.records, n) || !hasKey(p.records, n+1) {
		return api.OK
	}
	name, numbers := named(p.seats[n]), p.numbers(p.seats[n])
	var kept []string
	for _, i := range numbers[:slices.Index(numbers, n)+1] {
		kept = append(kept, p.records[i])
	}
	if slices.Contains(p.disk.Names(), "t") {
		if e := p.disk.Remove("t"); e != api.OK {
			return e
		}
	}
	e := inOrder(
		func() api.Errno { return p.disk.Append("t", framed(kept...)) },
		func() api.Errno { return p.disk.Sync("t") },
		func() api.Errno { return p.disk.Rename("t", name) },
	)
	if e == api.OK {
		p.forget(numbers[slices.Index(numbers, n)+1:])
	}
	return e
}

func hasKey(m map[int]string, n int) bool {
	_, ok := m[n]
	return ok
}

func (p *plain) settle(n int) api.Errno {
	if e := p.disk.SyncNames(); e != api.OK {
		return e
	}
	p.names, p.last, p.sure = false, n, n
	return api.OK
}

func (p *plain) reset(n int) api.Errno {
	if n < 0 || n >= 99999999 {
		return api.ErrRange
	}
	p.hand = 0
	return inOrder(func() api.Errno { return p.remove(p.begins()) }, func() api.Errno { return p.settle(n) })
}

// wheel hands out numbers that look like any, the same ones at each run.
func wheel(seed uint32) func(below int) int {
	return func(below int) int {
		seed = seed*1664525 + 1013904223
		return int(seed>>8) % below
	}
}

// twins is a log and a plain one, each on a disk of its own; both are nil while none is open.
type twins struct {
	d, e *disk.Disk
	l    *Log
	p    *plain
}

// same holds all that is told of one against what is told of the other.
func (w *twins) same(t *testing.T) {
	t.Helper()
	if w.d.Up() != w.e.Up() || !slices.Equal(w.d.Names(), w.e.Names()) {
		t.Fatalf("up %v, %q; plain: up %v, %q", w.d.Up(), w.d.Names(), w.e.Up(), w.e.Names())
	}
	for _, name := range w.d.Names() {
		s, _ := w.d.Read(name)
		if r, _ := w.e.Read(name); s != r {
			t.Fatalf("%s: %q; plain: %q", name, s, r)
		}
	}
	if w.l == nil {
		return
	}
	if w.l.First() != w.p.first() || w.l.Last() != w.p.last || w.l.Durable() != w.p.sure {
		t.Fatalf("First %d, Last %d, Durable %d; plain: %d, %d, %d", w.l.First(), w.l.Last(), w.l.Durable(), w.p.first(), w.p.last, w.p.sure)
	}
	for n := w.p.first() - 2; n <= w.p.last+2; n++ {
		s, f := w.l.Read(n)
		r, ok := w.p.records[n]
		g := api.OK
		if !ok {
			g = api.ErrNone
		} else if !w.e.Up() {
			r, g = "", api.ErrDead
		}
		if s != r || f != g {
			t.Fatalf("Read(%d): %q, error %d; plain: %q, error %d", n, s, f, r, g)
		}
	}
}

// crash crashes both disks; the logs are to be opened anew.
func (w *twins) crash(pick func(int) int) {
	keep := make([]int, pick(8))
	for i := range keep {
		keep[i] = pick(60) - 20
	}
	w.d.Crash(keep)
	w.e.Crash(keep)
	w.l, w.p = nil, nil
}

// junk writes into both disks what is not the log's; no log is in use then.
func (w *twins) junk(pick func(int) int) {
	begin := pick(50)
	name := []string{named(begin), named(99999990 + pick(10)), "t", "x", "w1", named(0)}[pick(6)]
	text := []string{"", "junk", part(begin, begin+pick(20)), ofKind(7, "x"), "\x01\x02a"}[pick(5)]
	for _, d := range []*disk.Disk{w.d, w.e} {
		d.Append(name, text)
		d.SyncNames()
	}
}

// open opens both logs, mostly behind a number at which they have what they had.
func (w *twins) open(t *testing.T, pick func(int) int) {
	t.Helper()
	base := pick(40)
	if names := w.d.Names(); len(names) > 0 && pick(4) > 0 {
		begin, _ := strconv.Atoi(strings.TrimLeft(names[pick(len(names))], "tmxw0"))
		base = begin + pick(4) - 2
	}
	var f, g api.Errno
	w.l, f = Open(w.d, base)
	w.p, g = plainOpen(w.e, base)
	if f != g || (w.l == nil) != (w.p == nil) {
		t.Fatalf("Open(%d): error %d; plain: error %d", base, f, g)
	}
}

// near is a number that is not far from those of the log.
func (w *twins) near(pick func(int) int) int {
	return w.p.first() - 3 + pick(w.p.last-w.p.first()+8)
}

// step does one thing to both logs, and holds their answers against each other.
func (w *twins) step(t *testing.T, pick func(int) int) {
	t.Helper()
	if w.l == nil {
		if pick(5) == 0 {
			w.junk(pick)
		}
		if !w.d.Up() {
			w.crash(pick)
		}
		w.open(t, pick)
		w.same(t)
		return
	}
	var f, g api.Errno
	var n, m int
	over := false
	kind := pick(40)
	switch {
	case kind < 24:
		for range 1 + pick(6) {
			if f != g || n != m {
				break
			}
			s := strings.Repeat("r", pick(9))
			n, f = w.l.Append(s)
			m, g = w.p.append(s)
		}
	case kind < 29:
		f, g = w.l.Sync(), w.p.sync()
	case kind < 31:
		n = w.near(pick)
		m = n
		f, g = w.l.DropBefore(n), w.p.dropBefore(n)
	case kind < 34:
		n = w.near(pick)
		m = n
		f, g = w.l.CutAfter(n), w.p.cutAfter(n)
		over = f != api.OK && f != api.ErrRange
	case kind < 35:
		n = []int{w.near(pick), pick(30), 99999970 + pick(30), -1}[pick(4)]
		m = n
		f, g = w.l.Reset(n), w.p.reset(n)
		over = f != api.OK && f != api.ErrRange
	case kind < 37:
		fuse := pick(12) - 1
		w.d.Fuse(fuse)
		w.e.Fuse(fuse)
	case kind < 39:
		w.crash(pick)
	default:
		w.l, w.p = nil, nil
	}
	if f != g || n != m {
		t.Fatalf("kind %d: %d, error %d; plain: %d, error %d", kind, n, f, m, g)
	}
	if over {
		w.l, w.p = nil, nil
	}
	w.same(t)
}

// newTwins is logs that are not open yet.
func newTwins(room int) *twins { return &twins{d: disk.New(room), e: disk.New(room)} }

// Promises 5.1 to 5.3: any calls, one behind the other, against the plain log; both write the same to their disks.
func TestIsPlainLog(t *testing.T) {
	for seed := range uint32(1500) {
		pick := wheel(seed)
		w := newTwins([]int{200, 600, 5000}[pick(3)])
		for range 120 {
			w.step(t, pick)
		}
	}
}

// Promises 5.1 to 5.3, of calls that any bytes tell; none makes a panic (R1).
func FuzzLog(f *testing.F) {
	f.Add(500, []byte("\x01\x00\x02\x00\x03\x04\x05\x18\x19\x1e\x05\x1f\x01\x25\x02\x03\x04\x00\x00"))
	f.Add(100, []byte("\x00\x01\x02\x03\x04\x05\x06\x07\x08\x09\x0a\x0b\x0c\x0d\x0e\x0f"))
	f.Fuzz(func(t *testing.T, room int, calls []byte) {
		w := newTwins(room)
		pick := func(below int) int {
			if len(calls) == 0 {
				return 0
			}
			n := int(calls[0]) % below
			calls = calls[1:]
			return n
		}
		for len(calls) > 0 {
			w.step(t, pick)
		}
	})
}

// Promise 5.1, of any bytes in the files, opened behind any number (R1, R6).
func FuzzOpen(f *testing.F) {
	f.Add(0, part(1, 3), part(4, 5)+"torn", part(6, 6), 4, 6)
	f.Add(9, part(1, 20), ofKind(2, "x"), "", 21, 99999999)
	f.Fuzz(func(t *testing.T, base int, a, b, c string, second, third int) {
		w := newTwins(1 << 20)
		for _, d := range []*disk.Disk{w.d, w.e} {
			d.Append(named(1), a)
			d.Append(named(int(uint(second)%100000000)), b)
			d.Append(named(int(uint(third)%100000000)), c)
		}
		var g, h api.Errno
		w.l, g = Open(w.d, base)
		w.p, h = plainOpen(w.e, base)
		want(t, "Open", g, h)
		w.same(t)
	})
}

// history is what 5.4 tells of a log, kept by who calls it.
type history struct {
	base    int // behind it all is there that is sure
	records map[int]string
	last    int
	sure    int
}

// call does one thing to a log whose power may fail, and tells whether there was no error; all is synced ahead of each cut.
func (h *history) call(l *Log, pick func(int) int) bool {
	switch kind := pick(20); {
	case kind < 13:
		s := fmt.Sprintf("%d.%d", h.last+1, pick(1000))
		if _, e := l.Append(s); e != api.OK {
			return false
		}
		h.last++
		h.records[h.last] = s
	case kind < 16:
		if l.Sync() != api.OK {
			return false
		}
		h.sure = h.last
	case kind < 18:
		n := h.base + 1 + pick(h.sure-h.base+1)
		h.base = n - 1
		return l.DropBefore(n) == api.OK
	default:
		if l.Sync() != api.OK {
			return false
		}
		h.sure = h.last
		n := h.base + pick(h.last-h.base+1)
		h.sure = n
		if l.CutAfter(n) != api.OK {
			return false
		}
		h.last = n
	}
	return true
}

// holds tells whether a log that was opened anew has all that is sure, and behind it records as they were.
func (h *history) holds(t *testing.T, l *Log) {
	t.Helper()
	if l.First() > h.base+1 || l.Last() < h.sure || l.Last() > h.last || l.Durable() != l.Last() {
		t.Fatalf("First %d, Last %d, Durable %d; base %d, sure up to %d, last %d", l.First(), l.Last(), l.Durable(), h.base, h.sure, h.last)
	}
	for n := l.First(); n <= l.Last(); n++ {
		if s, e := l.Read(n); s != h.records[n] || e != api.OK {
			t.Fatalf("Read(%d): %q, error %d; it was %q", n, s, e, h.records[n])
		}
	}
}

// Promise 5.4: wherever the power fails, and whatever is kept, the log that is opened anew has all records up to Durable, and behind them those that were appended up to some one.
func TestSureStays(t *testing.T) {
	for seed := range uint32(3000) {
		pick := wheel(seed)
		d := disk.New(1 << 20)
		base := pick(40)
		h := &history{base: base, records: map[int]string{}, last: base, sure: base}
		for range 8 {
			l := opened(t, d, h.base)
			h.holds(t, l)
			h.last, h.sure = l.Last(), l.Last()
			d.Fuse(pick(70))
			for range 60 {
				if !h.call(l, pick) {
					break
				}
			}
			d.Crash([]int{pick(80) - 20, pick(90), pick(90), pick(90), pick(90), pick(90), pick(90)})
		}
	}
}

// Promise 5.4: records that were appended and not synced are whole behind a crash, at each number of bytes that is kept of them.
func TestTornRecords(t *testing.T) {
	for keep := range len(part(11, 16)) + len(part(17, 20)) + 1 {
		d, l := begun(t, 0)
		appendUpTo(t, l, 10)
		must(t, l.Sync())
		appendUpTo(t, l, 20)
		first := min(keep, len(part(11, 16)))
		d.Crash([]int{1, first, keep - first})
		last := 10
		for last < 20 && len(part(11, last+1)) <= keep {
			last++
		}
		wantLog(t, opened(t, d, 0), 1, row(1, last), last)
	}
	// The second segment is kept and the first one is not: what has no record ahead of it does not belong.
	d, l := begun(t, 0)
	appendUpTo(t, l, 10)
	must(t, l.Sync())
	appendUpTo(t, l, 20)
	d.Crash([]int{1, len(part(11, 15)), len(part(17, 20))})
	wantLog(t, opened(t, d, 0), 1, row(1, 15), 15)
	wantFiles(t, d, map[string]string{named(1): part(1, 15)})
}

// Promise 5.1: records are read from the disk: one that a crash has taken away, whole or in part, is none, also to a log that is in use.
func TestReadBehindCrash(t *testing.T) {
	for _, keep := range [][]int{{0}, {1, 0}, {1, len(part(1, 2))}, {1, len(part(1, 2)) + 1}, {1, len(part(1, 3)) - 1}, {1, len(part(1, 3))}} {
		d, l := begun(t, 0)
		appendUpTo(t, l, 4)
		d.Crash(keep)
		has := 0
		for len(keep) > 1 && len(part(1, has+1)) <= keep[1] {
			has++
		}
		for n := 1; n <= has; n++ {
			wantRead(t, l, n, told(n), api.OK)
		}
		for n := has + 1; n <= 5; n++ {
			wantRead(t, l, n, "", api.ErrNone)
		}
	}
}

// R1: a log that is used on behind a crash, or behind an error of a CutAfter or a Reset, makes no panic.
func TestUsedOn(t *testing.T) {
	for seed := range uint32(2000) {
		pick := wheel(seed)
		d := disk.New([]int{300, 5000}[pick(2)])
		l := opened(t, d, pick(3))
		for range 100 {
			n := l.First() - 3 + pick(l.Last()-l.First()+8)
			switch pick(16) {
			case 0:
				d.Crash([]int{pick(9), pick(50), pick(50), pick(50)})
			case 1:
				d.Fuse(pick(12))
			case 2:
				l.Sync()
			case 3:
				l.CutAfter(n)
			case 4:
				l.DropBefore(n)
			case 5:
				l.Reset(pick(40) - 1)
			case 6:
				d.Remove("t")
			default:
				l.Append(strings.Repeat("x", pick(9)))
			}
			l.Read(n)
			l.Read(l.First())
			l.Read(l.Last())
		}
	}
}

// What is appended is sure when it is synced.
func Example() {
	d := disk.New(1000)
	l, _ := Open(d, 0)
	l.Append("a")
	l.Append("b")
	l.Sync()
	l.Append("c")
	fmt.Println(l.First(), l.Last(), l.Durable())
	d.Crash(nil)
	l, _ = Open(d, 0)
	s, e := l.Read(2)
	fmt.Println(l.Last(), s, e == api.OK)
	// Output:
	// 1 3 2
	// 2 b true
}
