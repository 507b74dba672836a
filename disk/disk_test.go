package disk

import (
	"fmt"
	"maps"
	"math"
	"slices"
	"strings"
	"testing"

	"barograph/api"
)

// plainFile is a file of the plain disk.
type plainFile struct {
	all   string
	lasts int
}

// plain is a disk by another way: it keeps the whole of the names that last, and the whole of the names behind each change since then.
type plain struct {
	room   int
	dead   bool
	left   int
	states []map[string]*plainFile
}

func newPlain(room int) *plain {
	return &plain{room: room, left: -1, states: []map[string]*plainFile{{}}}
}

func (p *plain) now() map[string]*plainFile { return p.states[len(p.states)-1] }

func (p *plain) used() int {
	n := 0
	for _, f := range p.now() {
		n += len(f.all)
	}
	return n
}

// next is a copy of the names, put behind the others, to be changed.
func (p *plain) next() map[string]*plainFile {
	p.states = append(p.states, maps.Clone(p.now()))
	return p.now()
}

// noPower counts a write.
func (p *plain) noPower() bool {
	p.dead = p.dead || p.left == 0
	if !p.dead && p.left > 0 {
		p.left--
	}
	return p.dead
}

func plainName(s string) bool {
	return len(s) > 0 && len(s) <= 32 && strings.Trim(s, "abcdefghijklmnopqrstuvwxyz0123456789.-") == ""
}

func (p *plain) appendTo(name, s string) api.Errno {
	f := p.now()[name]
	switch {
	case p.noPower():
		return api.ErrDead
	case !plainName(name):
		return api.ErrField
	case p.used()+len(s) > p.room, f == nil && len(p.now()) >= 64:
		return api.ErrFull
	case f == nil:
		f = &plainFile{}
		p.next()[name] = f
	}
	f.all += s
	return api.OK
}

func (p *plain) sync(name string) api.Errno {
	f := p.now()[name]
	switch {
	case p.noPower():
		return api.ErrDead
	case f == nil:
		return api.ErrNone
	}
	f.lasts = len(f.all)
	return api.OK
}

func (p *plain) rename(from, to string) api.Errno {
	f := p.now()[from]
	switch {
	case p.noPower():
		return api.ErrDead
	case f == nil:
		return api.ErrNone
	case !plainName(to):
		return api.ErrField
	}
	state := p.next()
	state[to] = f
	if from != to {
		delete(state, from)
	}
	return api.OK
}

func (p *plain) remove(name string) api.Errno {
	switch {
	case p.noPower():
		return api.ErrDead
	case p.now()[name] == nil:
		return api.ErrNone
	}
	delete(p.next(), name)
	return api.OK
}

func (p *plain) syncNames() api.Errno {
	if p.noPower() {
		return api.ErrDead
	}
	p.states = []map[string]*plainFile{p.now()}
	return api.OK
}

func (p *plain) fuse(n int) {
	if !p.dead {
		p.left = n
	}
}

func (p *plain) crash(keep []int) {
	at := 0
	next := func(count int) int {
		n := uint64(0)
		if at < len(keep) {
			n = uint64(keep[at])
		}
		at++
		return int(n % uint64(count+1))
	}
	p.states = []map[string]*plainFile{p.states[next(len(p.states)-1)]}
	for _, name := range slices.Sorted(maps.Keys(p.now())) {
		f := p.now()[name]
		f.all = f.all[:f.lasts+next(len(f.all)-f.lasts)]
		f.lasts = len(f.all)
	}
	p.dead, p.left = false, -1
}

// want holds an answer against the one that is asked for.
func want(t *testing.T, what string, e, f api.Errno) {
	t.Helper()
	if e != f {
		t.Errorf("%s: error %d, want error %d", what, e, f)
	}
}

// must ends the test at an error: what comes behind would tell nothing.
func must(t *testing.T, errors ...api.Errno) {
	t.Helper()
	for i, e := range errors {
		if e != api.OK {
			t.Fatalf("step %d: error %d", i, e)
		}
	}
}

func wantRead(t *testing.T, d *Disk, name, s string, e api.Errno) {
	t.Helper()
	if got, f := d.Read(name); got != s || f != e {
		t.Errorf("Read(%q): %.40q of %d bytes, error %d; want %.40q of %d bytes, error %d", name, got, len(got), f, s, len(s), e)
	}
}

// wantFiles tells whether a disk with power has these files, and no others.
func wantFiles(t *testing.T, d *Disk, files map[string]string) {
	t.Helper()
	used := 0
	for name, s := range files {
		wantRead(t, d, name, s, api.OK)
		used += len(s)
	}
	if l := d.Names(); !slices.Equal(l, slices.Sorted(maps.Keys(files))) {
		t.Errorf("Names: %q, want those of %q", l, files)
	}
	if n := d.Used(); n != used {
		t.Errorf("Used: %d, want %d", n, used)
	}
	if !d.Up() {
		t.Error("no power")
	}
}

// lasting is a disk on which these files are, all of which last.
func lasting(t *testing.T, room int, files map[string]string) *Disk {
	t.Helper()
	d := New(room)
	for _, name := range slices.Sorted(maps.Keys(files)) {
		must(t, d.Append(name, files[name]), d.Sync(name))
	}
	must(t, d.SyncNames())
	return d
}

// numbered is so many names.
func numbered(count int) []string {
	var l []string
	for i := range count {
		l = append(l, fmt.Sprintf("f%03d", i))
	}
	return l
}

// The chapter's examples.
func TestExamples(t *testing.T) {
	d := New(100)
	must(t, d.Append("a", "xy"), d.Sync("a"))
	d.Crash([]int{0})
	wantFiles(t, d, nil)
	for keep, s := range []string{"xy", "xyz"} {
		d = New(100)
		must(t, d.Append("a", "xy"), d.Sync("a"), d.SyncNames())
		d.Crash([]int{0})
		wantFiles(t, d, map[string]string{"a": "xy"})
		must(t, d.Append("a", "z"))
		d.Crash([]int{0, keep})
		wantFiles(t, d, map[string]string{"a": s})
	}
}

// Promise 4.1: a new disk has no files, whatever its room.
func TestNewIsEmpty(t *testing.T) {
	for _, room := range []int{math.MinInt, -1, 0, 1, 100, math.MaxInt} {
		d := New(room)
		wantFiles(t, d, nil)
		wantRead(t, d, "a", "", api.ErrNone)
		want(t, "Sync", d.Sync("a"), api.ErrNone)
		want(t, "Rename", d.Rename("a", "b"), api.ErrNone)
		want(t, "Remove", d.Remove("a"), api.ErrNone)
		want(t, "SyncNames", d.SyncNames(), api.OK)
		wantFiles(t, d, nil)
	}
}

// Promise 4.1: what is appended stands behind all that is in its own file, and in no other one.
func TestAppend(t *testing.T) {
	d := New(1 << 20)
	files := map[string]string{}
	for _, s := range []string{"", "xy", "", "z", "\x00", "\xff\xfe", "β", "\n", strings.Repeat("long", 5000), "end"} {
		for _, name := range []string{"a", "b", "a"} {
			must(t, d.Append(name, name+s))
			files[name] += name + s
		}
		must(t, d.Append("c", s))
		files["c"] += s
		wantFiles(t, d, files)
	}
	other := New(1 << 20)
	wantFiles(t, other, nil)
}

// Promise 4.1: nothing, appended to a name that there is not, makes a file; what is in the others is not touched.
func TestAppendMakesFile(t *testing.T) {
	d := New(0)
	must(t, d.Append("a", ""))
	wantFiles(t, d, map[string]string{"a": ""})
	must(t, d.Append("a", ""), d.Append("b", ""))
	wantFiles(t, d, map[string]string{"a": "", "b": ""})
}

// Promise 4.1: each byte that there is as a sign of a name, alone, in front, in the midst and at the end.
func TestNameSigns(t *testing.T) {
	for c := range 256 {
		sign := string([]byte{byte(c)})
		e := api.ErrField
		if 'a' <= c && c <= 'z' || '0' <= c && c <= '9' || c == '.' || c == '-' {
			e = api.OK
		}
		for _, name := range []string{sign, sign + "a", "a" + sign + "a", "a" + sign, strings.Repeat("a", 31) + sign} {
			d := New(100)
			want(t, fmt.Sprintf("Append(%q)", name), d.Append(name, "s"), e)
			files := map[string]string{"from": "x"}
			if e == api.OK {
				wantFiles(t, d, map[string]string{name: "s"})
				files = map[string]string{name: "x"}
			} else {
				wantFiles(t, d, nil)
			}
			d = lasting(t, 100, map[string]string{"from": "x"})
			want(t, fmt.Sprintf("Rename to %q", name), d.Rename("from", name), e)
			wantFiles(t, d, files)
		}
	}
}

// Promise 4.1: a name has 1 to 32 signs.
func TestNameLengths(t *testing.T) {
	for n, e := range map[int]api.Errno{0: api.ErrField, 1: api.OK, 2: api.OK, 31: api.OK, 32: api.OK, 33: api.ErrField, 64: api.ErrField, 1 << 16: api.ErrField} {
		name := strings.Repeat("n", n)
		d := New(100)
		want(t, fmt.Sprintf("Append to a name of %d", n), d.Append(name, "s"), e)
		d = lasting(t, 100, map[string]string{"from": "x"})
		want(t, fmt.Sprintf("Rename to a name of %d", n), d.Rename("from", name), e)
	}
	for _, name := range []string{"ä", "aé", "a b", "a/b", "A", "a_b", "w\x00", "ａ"} {
		want(t, name, New(9).Append(name, ""), api.ErrField)
	}
	for _, name := range []string{".", "..", "-", "--", "0", "b00000001-00000016", "w00000001", "z9.-"} {
		want(t, name, New(9).Append(name, ""), api.OK)
	}
}

// Promise 4.1: the room is that of all files together; what exceeds it changes nothing.
func TestRoom(t *testing.T) {
	d := New(10)
	must(t, d.Append("a", "1234"), d.Append("b", "12345"))
	for _, name := range []string{"a", "b", "c"} {
		want(t, "2 more", d.Append(name, "12"), api.ErrFull)
		want(t, "many more", d.Append(name, strings.Repeat("x", 1000)), api.ErrFull)
		wantFiles(t, d, map[string]string{"a": "1234", "b": "12345"})
	}
	must(t, d.Append("c", "6"), d.Append("c", ""), d.Append("d", ""))
	want(t, "1 more", d.Append("c", "7"), api.ErrFull)
	want(t, "1 more, a new file", d.Append("e", "7"), api.ErrFull)
	wantFiles(t, d, map[string]string{"a": "1234", "b": "12345", "c": "6", "d": ""})
}

// Promise 4.1: who has no name any more needs no room, be it that it would be there again behind a crash.
func TestRoomIsFreed(t *testing.T) {
	d := lasting(t, 10, map[string]string{"a": "1234", "b": "123456"})
	want(t, "full", d.Append("c", "x"), api.ErrFull)
	must(t, d.Remove("a"), d.Append("c", "1234"))
	want(t, "full", d.Append("c", "x"), api.ErrFull)
	must(t, d.Rename("c", "b"), d.Append("b", "567890"))
	want(t, "full", d.Append("b", "x"), api.ErrFull)
	wantFiles(t, d, map[string]string{"b": "1234567890"})
}

// Promise 4.1: with no room there are empty files, with less than none there is nothing; with most there is no bound to be seen.
func TestRoomEdges(t *testing.T) {
	for _, room := range []int{-1, -100, math.MinInt} {
		d := New(room)
		want(t, "nothing, below 0", d.Append("a", ""), api.ErrFull)
		want(t, "a byte, below 0", d.Append("a", "x"), api.ErrFull)
		wantFiles(t, d, nil)
	}
	d := New(0)
	want(t, "a byte", d.Append("a", "x"), api.ErrFull)
	wantFiles(t, d, nil)
	d = New(math.MaxInt)
	must(t, d.Append("a", strings.Repeat("x", 1<<20)), d.Append("a", "y"))
	if d.Used() != 1<<20+1 {
		t.Errorf("Used: %d", d.Used())
	}
}

// Promises 4.1 and 4.4: behind a crash there may be more in the files than there is room for; then nothing more goes in.
func TestRoomExceededByCrash(t *testing.T) {
	d := lasting(t, 10, map[string]string{"a": "12345", "b": "1"})
	must(t, d.Remove("a"), d.Append("b", "23456789"), d.Sync("b"))
	d.Crash(nil)
	wantFiles(t, d, map[string]string{"a": "12345", "b": "123456789"})
	want(t, "a byte", d.Append("b", "x"), api.ErrFull)
	want(t, "nothing", d.Append("b", ""), api.ErrFull)
	want(t, "a new file", d.Append("c", ""), api.ErrFull)
	must(t, d.Sync("a"), d.Rename("a", "c"), d.Remove("b"), d.Append("c", "67890"))
	wantFiles(t, d, map[string]string{"c": "1234567890"})
}

// Promise 4.1: 64 names, and no more; those that there are may be written to, renamed and removed.
func TestMaxFiles(t *testing.T) {
	d := New(1000)
	files := map[string]string{}
	for _, name := range numbered(64) {
		must(t, d.Append(name, "s"))
		files[name] = "s"
	}
	wantFiles(t, d, files)
	want(t, "name 65", d.Append("f064", "s"), api.ErrFull)
	want(t, "name 65, empty", d.Append("f064", ""), api.ErrFull)
	want(t, "a name that is none", d.Append("F", ""), api.ErrField)
	must(t, d.Append("f063", "t"), d.Rename("f000", "new"))
	want(t, "name 65", d.Append("f000", "s"), api.ErrFull)
	must(t, d.Rename("f001", "new"), d.Append("f000", "u"))
	want(t, "name 65", d.Append("f001", "s"), api.ErrFull)
	must(t, d.Remove("f002"), d.Append("f001", "v"))
	want(t, "name 65", d.Append("f002", "s"), api.ErrFull)
	delete(files, "f002")
	files["f000"], files["f001"], files["f063"], files["new"] = "u", "v", "st", "s"
	wantFiles(t, d, files)
}

// Promise 4.1: with 64 names that last, and as many others made since then, each number of changes gives names that there were.
func TestMaxFilesChanged(t *testing.T) {
	for k := range 129 {
		d := New(0)
		files := map[string]string{}
		for _, name := range numbered(64) {
			must(t, d.Append(name, ""))
			files[name] = ""
		}
		must(t, d.SyncNames())
		for i, name := range numbered(64) {
			must(t, d.Remove(name), d.Append("g"+name, ""))
			if 2*i < k {
				delete(files, name)
			}
			if 2*i+1 < k {
				files["g"+name] = ""
			}
		}
		d.Crash([]int{k})
		wantFiles(t, d, files)
	}
}

// Promise 4.1: ErrDead is told ahead of all else, ErrField ahead of ErrFull; with an error nothing has changed.
func TestAppendErrors(t *testing.T) {
	d := New(3)
	want(t, "no name, no room", d.Append("A", "1234"), api.ErrField)
	want(t, "no room", d.Append("a", "1234"), api.ErrFull)
	wantFiles(t, d, nil)
	d.Crash([]int{1})
	wantFiles(t, d, nil)
	d.Fuse(0)
	want(t, "no power, no name, no room", d.Append("A", "1234"), api.ErrDead)
}

// Promise 4.1: Sync makes all last that is in that file, and in no other one; a name that is none has no file.
func TestSync(t *testing.T) {
	d := lasting(t, 100, map[string]string{"a": "1", "b": "1"})
	must(t, d.Append("a", "2"), d.Append("a", "3"), d.Append("b", "2"), d.Sync("a"), d.Append("a", "4"))
	for _, name := range []string{"c", "", "A", "a ", strings.Repeat("x", 33)} {
		want(t, "Sync", d.Sync(name), api.ErrNone)
	}
	wantFiles(t, d, map[string]string{"a": "1234", "b": "12"})
	d.Crash(nil)
	wantFiles(t, d, map[string]string{"a": "123", "b": "1"})
}

// Promise 4.1: what is synced lasts in its file, also under another name, and if its name is made to last later.
func TestSyncIsOfTheFile(t *testing.T) {
	d := New(100)
	must(t, d.Append("a", "xy"), d.Sync("a"), d.Append("a", "z"), d.Rename("a", "b"), d.SyncNames())
	d.Crash(nil)
	wantFiles(t, d, map[string]string{"b": "xy"})
	must(t, d.Append("b", "1"), d.Sync("b"), d.Rename("b", "c"))
	d.Crash(nil)
	wantFiles(t, d, map[string]string{"b": "xy1"})
}

// writes is one call of each kind of write that has no error, and one that has one, on a disk with the file a of 2 bytes, and room for 3.
func writes() map[string]func(*Disk) api.Errno {
	return map[string]func(*Disk) api.Errno{
		"Append":              func(d *Disk) api.Errno { return d.Append("a", "z") },
		"Append, a new file":  func(d *Disk) api.Errno { return d.Append("b", "") },
		"Append, no name":     func(d *Disk) api.Errno { return d.Append("A", "") },
		"Append, no room":     func(d *Disk) api.Errno { return d.Append("a", "1234") },
		"Sync":                func(d *Disk) api.Errno { return d.Sync("a") },
		"Sync, no file":       func(d *Disk) api.Errno { return d.Sync("c") },
		"Rename":              func(d *Disk) api.Errno { return d.Rename("a", "a") },
		"Rename, no file":     func(d *Disk) api.Errno { return d.Rename("c", "d") },
		"Rename to no name":   func(d *Disk) api.Errno { return d.Rename("a", "A") },
		"Remove":              func(d *Disk) api.Errno { return d.Remove("a") },
		"Remove, no file":     func(d *Disk) api.Errno { return d.Remove("c") },
		"SyncNames":           func(d *Disk) api.Errno { return d.SyncNames() },
		"Rename, and no name": func(d *Disk) api.Errno { return d.Rename("c", "") },
	}
}

// Promise 4.1: each kind of write is counted, also if it has another error; then there is no power, for any of them.
func TestFuseCountsWrites(t *testing.T) {
	for what, write := range writes() {
		for n := range 4 {
			d := lasting(t, 3, map[string]string{"a": "xy"})
			d.Fuse(n + 1)
			if write(d) == api.ErrDead {
				t.Fatalf("%s: no power", what)
			}
			for range n {
				must(t, d.SyncNames())
			}
			if !d.Up() {
				t.Errorf("%s and %d more: the power is gone ahead of the write that has none", what, n)
			}
			names := d.Names()
			want(t, what+", one more", d.SyncNames(), api.ErrDead)
			if d.Up() || len(d.Names()) != 0 || len(names) == 0 && what != "Remove" {
				t.Errorf("%s and %d more: up %v, names %q, and %q ahead", what, n, d.Up(), d.Names(), names)
			}
			for other, w := range writes() {
				want(t, other+" without power", w(d), api.ErrDead)
			}
		}
	}
}

// Promise 4.1: a write that has no power does nothing, whichever it is, and takes it away.
func TestFuseBurns(t *testing.T) {
	for what, write := range writes() {
		d := lasting(t, 3, map[string]string{"a": "xy"})
		d.Fuse(0)
		wantFiles(t, d, map[string]string{"a": "xy"})
		want(t, what, write(d), api.ErrDead)
		if d.Up() {
			t.Errorf("%s: power", what)
		}
		d.Crash([]int{1, 1, 1})
		wantFiles(t, d, map[string]string{"a": "xy"})
	}
}

// Promises 4.1 and 4.3: what is no write is not counted; a fuse takes the place of the one ahead; below 0 it lets all go.
func TestFuse(t *testing.T) {
	d := lasting(t, 1000, map[string]string{"a": ""})
	d.Fuse(1)
	for range 10 {
		d.Read("a")
		d.Read("b")
		d.Names()
		d.Used()
		d.Up()
	}
	must(t, d.Append("a", "1"))
	d.Fuse(2)
	must(t, d.Append("a", "2"), d.Append("a", "3"))
	for _, n := range []int{-1, -2, -3, math.MinInt, math.MaxInt} {
		d.Fuse(0)
		d.Fuse(n)
		for range 10 {
			must(t, d.Append("a", "x"))
		}
	}
	d.Fuse(5)
	d.Fuse(1)
	must(t, d.Append("a", "y"))
	want(t, "the last fuse holds", d.Append("a", "z"), api.ErrDead)
}

// Promise 4.3: without power there is no fuse to be set, and none brings the power back.
func TestFuseWithoutPower(t *testing.T) {
	for _, n := range []int{0, 1, 7, -1, math.MinInt, math.MaxInt} {
		d := lasting(t, 1000, map[string]string{"a": ""})
		d.Fuse(0)
		want(t, "burnt", d.Sync("a"), api.ErrDead)
		d.Fuse(n)
		want(t, "and a fuse", d.Sync("a"), api.ErrDead)
		d.Crash(nil)
		for range 20 {
			must(t, d.Append("a", "x"))
		}
	}
}

// Promise 4.4: a crash takes the fuse away, be it burnt or not.
func TestCrashTakesFuse(t *testing.T) {
	for n := range 4 {
		d := lasting(t, 1000, map[string]string{"a": ""})
		d.Fuse(n)
		d.Sync("a")
		d.Crash(nil)
		wantFiles(t, d, map[string]string{"a": ""})
		for range 20 {
			must(t, d.Append("a", "x"))
		}
	}
}

// Promise 4.2: a file that is renamed has the other name alone; what had that is gone.
func TestRename(t *testing.T) {
	d := lasting(t, 100, map[string]string{"a": "1", "b": "22", "c": "333"})
	must(t, d.Rename("a", "d"))
	wantFiles(t, d, map[string]string{"d": "1", "b": "22", "c": "333"})
	wantRead(t, d, "a", "", api.ErrNone)
	must(t, d.Rename("b", "c"))
	wantFiles(t, d, map[string]string{"d": "1", "c": "22"})
	must(t, d.Rename("c", "c"))
	wantFiles(t, d, map[string]string{"d": "1", "c": "22"})
	must(t, d.Append("c", "+"), d.Append("b", "new"))
	wantFiles(t, d, map[string]string{"d": "1", "c": "22+", "b": "new"})
}

// Promise 4.2: ErrNone is told ahead of ErrField; with an error nothing has changed.
func TestRenameErrors(t *testing.T) {
	d := lasting(t, 100, map[string]string{"a": "1"})
	for _, from := range []string{"b", "", "A", strings.Repeat("x", 33)} {
		for _, to := range []string{"a", "c", "", "A", "a\x00", strings.Repeat("x", 33)} {
			want(t, "Rename of no file", d.Rename(from, to), api.ErrNone)
		}
	}
	for _, to := range []string{"", "A", "a\x00", strings.Repeat("x", 33)} {
		want(t, "Rename to no name", d.Rename("a", to), api.ErrField)
	}
	wantFiles(t, d, map[string]string{"a": "1"})
	// None of these is a change of names: there is one now, and 1 mod 2 is 1.
	must(t, d.Remove("a"))
	d.Crash([]int{1})
	wantFiles(t, d, nil)
}

// Promise 4.2: a file that is removed is gone; another one of its name is a new one.
func TestRemove(t *testing.T) {
	d := lasting(t, 100, map[string]string{"a": "1", "b": "22"})
	for _, name := range []string{"c", "", "A", strings.Repeat("x", 33)} {
		want(t, "Remove of no file", d.Remove(name), api.ErrNone)
	}
	must(t, d.Remove("a"))
	wantFiles(t, d, map[string]string{"b": "22"})
	wantRead(t, d, "a", "", api.ErrNone)
	want(t, "Sync", d.Sync("a"), api.ErrNone)
	want(t, "Remove", d.Remove("a"), api.ErrNone)
	want(t, "Rename", d.Rename("a", "c"), api.ErrNone)
	must(t, d.Append("a", "new"))
	wantFiles(t, d, map[string]string{"a": "new", "b": "22"})
	d.Crash([]int{2})
	wantFiles(t, d, map[string]string{"a": "", "b": "22"})
}

// Promise 4.2: SyncNames makes each change of names last, and no file's bytes.
func TestSyncNames(t *testing.T) {
	d := lasting(t, 100, map[string]string{"a": "1", "b": "22", "c": "333"})
	must(t, d.Rename("a", "d"), d.Remove("b"), d.Append("e", "5"), d.Rename("c", "c"), d.Append("c", "+"), d.SyncNames())
	wantFiles(t, d, map[string]string{"c": "333+", "d": "1", "e": "5"})
	must(t, d.SyncNames())
	d.Crash([]int{0})
	wantFiles(t, d, map[string]string{"c": "333", "d": "1", "e": ""})
}

// Promise 4.3: all that is told with power, and without.
func TestTold(t *testing.T) {
	d := lasting(t, 100, map[string]string{"b": "22", "a": "1", "a.b": "333", "a-b": "4", "z": "", "0": "5"})
	if l := d.Names(); !slices.Equal(l, []string{"0", "a", "a-b", "a.b", "b", "z"}) {
		t.Errorf("Names: %q", l)
	}
	for _, name := range []string{"c", "", "A", "a\x00", strings.Repeat("x", 33)} {
		wantRead(t, d, name, "", api.ErrNone)
	}
	d.Fuse(0)
	wantRead(t, d, "a", "1", api.OK)
	want(t, "burnt", d.SyncNames(), api.ErrDead)
	for _, name := range []string{"a", "z", "c", "", "A"} {
		wantRead(t, d, name, "", api.ErrDead)
	}
	if len(d.Names()) != 0 || d.Up() {
		t.Errorf("without power: names %q, up %v", d.Names(), d.Up())
	}
	// The chapter says of Names alone that there are none without power.
	if d.Used() != 8 {
		t.Errorf("without power: used %d", d.Used())
	}
}

// Promise 4.3: what is handed out is new memory, and what is handed in is not changed (R4).
func TestNothingShared(t *testing.T) {
	d := lasting(t, 100, map[string]string{"a": "1", "b": "22"})
	l := d.Names()
	l[0], l[1] = "x", "y"
	wantFiles(t, d, map[string]string{"a": "1", "b": "22"})
	s, _ := d.Read("a")
	must(t, d.Append("a", "+"), d.Append("b", "++"))
	if s != "1" {
		t.Errorf("what was read is %q now", s)
	}
	s, _ = d.Read("b")
	keep := []int{0, 1, 1, 7, 8}
	d.Crash(keep[:3])
	if !slices.Equal(keep, []int{0, 1, 1, 7, 8}) {
		t.Errorf("keep is %v now", keep)
	}
	keep[0], keep[1], keep[2] = 1, 0, 0
	must(t, d.Append("b", "-"))
	wantFiles(t, d, map[string]string{"a": "1+", "b": "22+-"})
	if s != "22++" {
		t.Errorf("what was read is %q now", s)
	}
}

// Promise 4.4: each number of changes that may be kept, of each kind of change; the names are those that there were then, the bytes those that there are now.
func TestCrashNames(t *testing.T) {
	states := []map[string]string{
		{"a": "1", "b": "22"},
		{"a": "1", "b": "22", "c": "3"},
		{"b": "22", "c": "3", "d": "1"},
		{"b": "1", "c": "3"},
		{"b": "1", "c": "3"},
		{"c": "3"},
		{"c": "3", "b": "4"},
	}
	for first := -8; first <= 15; first++ {
		d := lasting(t, 100, states[0])
		must(t, d.Append("c", "3"), d.Rename("a", "d"), d.Rename("d", "b"), d.Rename("b", "b"), d.Remove("b"), d.Append("b", "4"))
		must(t, d.Sync("c"), d.Sync("b"))
		wantFiles(t, d, states[6])
		d.Crash([]int{first})
		k := int(uint64(first) % 7)
		wantFiles(t, d, states[k])
		// They last now: no change is left, and no byte that does not last.
		d.Crash([]int{6, 9, 9, 9})
		wantFiles(t, d, states[k])
		must(t, d.Append("n", ""))
		d.Crash([]int{2})
		wantFiles(t, d, states[k])
	}
}

// Promise 4.4: of each file's bytes that do not last so many stay; each file that has a name takes a number, rising, also if all that is in it lasts.
func TestCrashBytes(t *testing.T) {
	for _, c := range []struct {
		keep    []int
		a, b, c string
	}{
		{nil, "a", "bb", ""},
		{[]int{}, "a", "bb", ""},
		{[]int{0}, "a", "bb", ""},
		{[]int{0, 1}, "a1", "bb", ""},
		{[]int{0, 2}, "a12", "bb", ""},
		{[]int{0, 3}, "a123", "bb", ""},
		{[]int{0, 4}, "a", "bb", ""},
		{[]int{0, 7}, "a123", "bb", ""},
		{[]int{0, 0, 1}, "a", "bb", ""},
		{[]int{0, 0, 1, 1}, "a", "bb", "c"},
		{[]int{0, 0, 0, 2}, "a", "bb", "cc"},
		{[]int{0, 0, 0, 3, 5}, "a", "bb", ""},
		{[]int{0, 1, 9, 2, 1, 1}, "a1", "bb", "cc"},
		// Without sign -1 is 2^64 - 1: mod 4 it is 3, mod 3 it is 0; -2 is mod 4 2, and mod 3 2.
		{[]int{0, -1, -1, -1}, "a123", "bb", ""},
		{[]int{0, -2, -2, -2}, "a12", "bb", "cc"},
		{[]int{0, math.MinInt, math.MinInt, math.MinInt}, "a", "bb", "cc"},
		{[]int{0, math.MaxInt, math.MaxInt, math.MaxInt}, "a123", "bb", "c"},
	} {
		d := lasting(t, 100, map[string]string{"a": "a", "b": "bb", "c": ""})
		must(t, d.Append("a", "123"), d.Append("c", "cc"))
		d.Crash(c.keep)
		files := map[string]string{"a": c.a, "b": c.b, "c": c.c}
		wantFiles(t, d, files)
		d.Crash(nil)
		wantFiles(t, d, files)
	}
}

// Promise 4.4: a number without sign is one of 64 bits.
func TestCrashSigns(t *testing.T) {
	for _, first := range []int{math.MinInt, math.MinInt + 1, -4, -3, -2, -1, 0, 1, 2, 3, math.MaxInt - 1, math.MaxInt} {
		d := New(100)
		files := map[string]string{}
		for _, name := range numbered(6) {
			must(t, d.Append(name, ""))
		}
		for _, name := range numbered(int(uint64(first) % 7)) {
			files[name] = ""
		}
		d.Crash([]int{first})
		wantFiles(t, d, files)
	}
}

// Promise 4.4: files that have no name behind the crash take no number; the order is that of the names then, not of those ahead.
func TestCrashOrder(t *testing.T) {
	d := New(100)
	must(t, d.Append("b", "12"), d.Append("c", "345"), d.SyncNames(), d.Append("a", "6"), d.Rename("c", "0"))
	d.Crash([]int{0, 1, 2})
	wantFiles(t, d, map[string]string{"b": "1", "c": "34"})

	d = New(100)
	must(t, d.Append("b", "12"), d.Append("c", "345"), d.SyncNames(), d.Append("a", "6"), d.Rename("c", "0"))
	d.Crash([]int{2, 1, 1, 2})
	wantFiles(t, d, map[string]string{"0": "3", "a": "6", "b": "12"})
}

// Promise 4.4: with power or without, a crash loses what does not last, and there is power behind it.
func TestCrashWithPower(t *testing.T) {
	for _, burnt := range []bool{false, true} {
		d := lasting(t, 100, map[string]string{"a": "1"})
		must(t, d.Append("a", "2"), d.Append("b", "3"))
		if burnt {
			d.Fuse(0)
			want(t, "burnt", d.SyncNames(), api.ErrDead)
		}
		d.Crash(nil)
		wantFiles(t, d, map[string]string{"a": "1"})
		d.Crash(nil)
		wantFiles(t, d, map[string]string{"a": "1"})
	}
}

// Promise 4.4: what a crash has cut off is gone: what is appended then stands behind what has stayed.
func TestAppendBehindCrash(t *testing.T) {
	d := lasting(t, 8, map[string]string{"a": "12"})
	must(t, d.Append("a", "345678"))
	d.Crash([]int{0, 2})
	must(t, d.Append("a", "x"))
	wantFiles(t, d, map[string]string{"a": "1234x"})
	d.Crash(nil)
	wantFiles(t, d, map[string]string{"a": "1234"})
	must(t, d.Append("a", "5678"))
	want(t, "full", d.Append("a", "9"), api.ErrFull)
}

// Promise 4.1: many small writes go as few do.
func TestManyWrites(t *testing.T) {
	d := New(1 << 20)
	for range 1 << 20 {
		must(t, d.Append("a", "x"))
	}
	want(t, "full", d.Append("a", "x"), api.ErrFull)
	wantFiles(t, d, map[string]string{"a": strings.Repeat("x", 1<<20)})
	d.Crash([]int{1, 1 << 19})
	wantFiles(t, d, map[string]string{"a": strings.Repeat("x", 1<<19)})
}

// wheel hands out numbers that look like any, the same ones at each run.
func wheel(seed uint32) func(below int) int {
	return func(below int) int {
		seed = seed*1664525 + 1013904223
		return int(seed>>8) % below
	}
}

// someNames is few names, so that they meet; the last ones are none.
var someNames = []string{"a", "b", "c", "d", "0.-z", "A", ""}

// sameDisks tells whether all that is told of a disk is what is told of the plain one.
func sameDisks(t *testing.T, d *Disk, p *plain) {
	t.Helper()
	if d.Up() == p.dead || d.Used() != p.used() {
		t.Fatalf("up %v, used %d; plain: up %v, used %d", d.Up(), d.Used(), !p.dead, p.used())
	}
	names := slices.Sorted(maps.Keys(p.now()))
	if p.dead {
		names = nil
	}
	if !slices.Equal(d.Names(), names) {
		t.Fatalf("Names: %q; plain: %q", d.Names(), names)
	}
	for _, name := range someNames {
		s, e := "", api.ErrNone
		if f := p.now()[name]; p.dead {
			e = api.ErrDead
		} else if f != nil {
			s, e = f.all, api.OK
		}
		if got, f := d.Read(name); got != s || f != e {
			t.Fatalf("Read(%q): %q, error %d; plain: %q, error %d", name, got, f, s, e)
		}
	}
}

// anyStep does one thing to both disks, and holds their answers against each other.
func anyStep(t *testing.T, d *Disk, p *plain, pick func(below int) int) {
	t.Helper()
	kind, name, other := pick(16), someNames[pick(len(someNames))], someNames[pick(len(someNames))]
	var e, f api.Errno
	switch {
	case kind < 5:
		s := strings.Repeat("0123456789"[kind:kind+1], pick(4))
		e, f = d.Append(name, s), p.appendTo(name, s)
	case kind < 7:
		e, f = d.Sync(name), p.sync(name)
	case kind < 9:
		e, f = d.Rename(name, other), p.rename(name, other)
	case kind < 11:
		e, f = d.Remove(name), p.remove(name)
	case kind < 13:
		e, f = d.SyncNames(), p.syncNames()
	case kind < 14:
		n := pick(20) - 3
		d.Fuse(n)
		p.fuse(n)
	default:
		keep := make([]int, pick(7))
		for i := range keep {
			keep[i] = pick(40) - 20
		}
		d.Crash(keep)
		p.crash(keep)
	}
	if e != f {
		t.Fatalf("kind %d, %q, %q: error %d; plain: error %d", kind, name, other, e, f)
	}
	sameDisks(t, d, p)
}

// Promises 4.1 to 4.4: any calls, one behind the other, against the plain disk.
func TestIsPlainDisk(t *testing.T) {
	for seed := range uint32(2000) {
		pick := wheel(seed)
		room := pick(24)
		d, p := New(room), newPlain(room)
		for range 200 {
			anyStep(t, d, p, pick)
		}
	}
}

// Promises 4.1 to 4.4, of calls that any bytes tell; none makes a panic (R1).
func FuzzDisk(f *testing.F) {
	f.Add(10, []byte("\x00\x00\x00\x02\x05\x00\x00\x0b\x00\x00\x0f\x00\x00\x00"))
	f.Add(-1, []byte("\x00\x01\x02\x03\x04\x05\x06\x07\x08\x09\x0a\x0b\x0c\x0d\x0e\x0f"))
	f.Fuzz(func(t *testing.T, room int, told []byte) {
		d, p := New(room), newPlain(room)
		pick := func(below int) int {
			if len(told) == 0 {
				return 0
			}
			n := int(told[0]) % below
			told = told[1:]
			return n
		}
		for len(told) > 0 {
			anyStep(t, d, p, pick)
		}
	})
}

// sure is what 4.5 tells of a disk, kept by who writes to it: what was written and synced under each name since it was changed last, which names last so, and all that ever was in a file of a name.
type sure struct {
	written map[string]string
	synced  map[string]string
	lasts   map[string]bool
	ever    map[string][]string
}

// begun is told that there was a crash: all that is there lasts.
func begun(d *Disk) *sure {
	s := &sure{map[string]string{}, map[string]string{}, map[string]bool{}, map[string][]string{}}
	for _, name := range d.Names() {
		text, _ := d.Read(name)
		s.written[name], s.synced[name], s.lasts[name], s.ever[name] = text, text, true, []string{text}
	}
	return s
}

// forget is told that a name was changed.
func (s *sure) forget(name string) {
	delete(s.written, name)
	delete(s.synced, name)
	delete(s.lasts, name)
}

// anyWrite does one write to the disk, and tells what was done. Nothing is written under the name z: what is in a file that was renamed to it, was in it under its old name.
func (s *sure) anyWrite(d *Disk, pick func(below int) int) {
	name := "abc"[pick(3):][:1]
	switch kind := pick(10); {
	case kind < 4:
		text := strings.Repeat("0123456789"[pick(10):][:1], pick(3))
		if d.Append(name, text) == api.OK {
			s.written[name] += text
			s.ever[name] = append(s.ever[name], s.written[name])
		}
	case kind < 6:
		if d.Sync(name) == api.OK {
			s.synced[name] = s.written[name]
		}
	case kind < 8:
		if d.SyncNames() == api.OK {
			for _, name := range d.Names() {
				s.lasts[name] = true
			}
		}
	case kind < 9:
		if d.Rename(name, "z") == api.OK {
			written, synced := s.written[name], s.synced[name]
			s.forget(name)
			s.forget("z")
			s.written["z"], s.synced["z"] = written, synced
			s.ever["z"] = append(s.ever["z"], written)
		}
	default:
		if d.Remove(name) == api.OK {
			s.forget(name)
		}
	}
}

// holds tells whether all that was sure is there behind a crash.
func (s *sure) holds(t *testing.T, d *Disk) {
	t.Helper()
	for name := range s.lasts {
		if got, e := d.Read(name); e != api.OK || !strings.HasPrefix(got, s.synced[name]) {
			t.Fatalf("%s: %q, error %d; synced was %q", name, got, e, s.synced[name])
		}
	}
	for _, name := range d.Names() {
		got, _ := d.Read(name)
		if !slices.ContainsFunc(s.ever[name], func(w string) bool { return strings.HasPrefix(w, got) }) {
			t.Fatalf("%s: %q is a beginning of none of %q", name, got, s.ever[name])
		}
	}
}

// Promise 4.5: what was synced, under a name that lasts and was not changed since, is there behind any crash, wherever the power failed; in each file is a beginning of what was written into one.
func TestSyncedStays(t *testing.T) {
	for seed := range uint32(3000) {
		pick := wheel(seed)
		d := New(1000)
		for range 6 {
			s := begun(d)
			d.Fuse(pick(40))
			for range 40 {
				s.anyWrite(d, pick)
			}
			d.Crash([]int{pick(50), pick(50), pick(50), pick(50), pick(50)})
			s.holds(t, d)
		}
	}
}

// A file is made to last by two calls: one for its bytes, one for its name.
func Example() {
	d := New(100)
	d.Append("a", "xy")
	d.Sync("a")
	d.SyncNames()
	d.Append("a", "z")
	d.Append("b", "new")
	d.Crash([]int{0, 1})
	s, e := d.Read("a")
	fmt.Println(d.Names(), s, e == api.OK)
	d.Fuse(1)
	fmt.Println(d.Append("a", "1") == api.OK, d.Append("a", "2"), d.Up())
	// Output:
	// [a] xyz true
	// true error 11 false
}
