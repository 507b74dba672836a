package manifest

import (
	"fmt"
	"slices"
	"strings"
	"testing"

	"barograph/api"
	"barograph/disk"
)

// wantLoad loads the manifest that holds, which changes nothing on the disk, and needs no write.
func wantLoad(t *testing.T, d *disk.Disk, want Manifest, wantErrno api.Errno) {
	t.Helper()
	as := told(d)
	m, e := Load(d)
	if e != wantErrno || !same(m, want) {
		t.Errorf("Load: %s, %v; want %s, %v", brief(m), e, brief(want), wantErrno)
	}
	if got := told(d); got != as {
		t.Errorf("Load has changed the disk: %s; it was %s", got, as)
	}
}

// told is all that a disk tells.
func told(d *disk.Disk) string {
	s := fmt.Sprint(d.Up(), d.Used())
	for _, name := range d.Names() {
		bytes, e := d.Read(name)
		s += fmt.Sprintf(" %s=%x/%d", name, bytes, e)
	}
	return s
}

// must ends the test at an error: what comes behind would tell nothing.
func must(t *testing.T, errors ...api.Errno) {
	t.Helper()
	for i, e := range errors {
		if e != api.OK {
			t.Fatalf("step %d: %v", i, e)
		}
	}
}

// plainPublish is Publish by another way, for a manifest that is right.
func plainPublish(d *disk.Disk, m Manifest) api.Errno {
	s := plainBytes(m)
	if slices.Contains(d.Names(), "n") {
		if e := d.Remove("n"); e != api.OK {
			return e
		}
	}
	if e := d.Append("n", s); e != api.OK {
		return e
	}
	if e := d.Sync("n"); e != api.OK {
		return e
	}
	if e := d.Rename("n", "m"); e != api.OK {
		return e
	}
	return d.SyncNames()
}

// start is what is on a disk ahead of a publishing.
type start struct {
	name string
	room int
	do   func(d *disk.Disk)
}

// put makes a file that lasts.
func put(d *disk.Disk, name, s string) {
	d.Append(name, s)
	d.Sync(name)
	d.SyncNames()
}

// fill makes so many files without bytes.
func fill(d *disk.Disk, count int) {
	for i := range count {
		d.Append(fmt.Sprintf("f%02d", i), "")
	}
}

// starts is disks of all kinds.
func starts() []start {
	old := plainBytes(good("old"))
	other := plainBytes(good("other", "one"))
	both := func(d *disk.Disk) {
		put(d, "m", old)
		put(d, "n", other)
	}
	return []start{
		{"new", 1000, func(*disk.Disk) {}},
		{"a manifest", 1000, func(d *disk.Disk) { put(d, "m", old) }},
		{"a manifest that does not last", 1000, func(d *disk.Disk) { d.Append("m", old) }},
		{"a manifest whose name does not last", 1000, func(d *disk.Disk) { d.Append("m", old); d.Sync("m") }},
		{"a file n", 1000, func(d *disk.Disk) { put(d, "n", other) }},
		{"a file n that does not last", 1000, func(d *disk.Disk) { d.Append("n", other) }},
		{"a file n without bytes", 1000, func(d *disk.Disk) { put(d, "n", "") }},
		{"both files", 1000, both},
		{"a part of a file n", 1000, func(d *disk.Disk) { put(d, "m", old); put(d, "n", other[:7]) }},
		{"both files, n with more that does not last", 1000, func(d *disk.Disk) { both(d); d.Append("n", "more") }},
		{"other files", 1000, func(d *disk.Disk) { both(d); put(d, "a", "x"); put(d, "o", "y"); put(d, "z", "z") }},
		{"names that do not last", 1000, func(d *disk.Disk) {
			put(d, "a", "x")
			put(d, "b", "y")
			both(d)
			d.Append("a", "more")
			d.Rename("a", "c")
			d.Remove("b")
			d.Append("e", "z")
		}},
		{"no manifest any more", 1000, func(d *disk.Disk) { both(d); d.Remove("m") }},
		{"no n any more", 1000, func(d *disk.Disk) { both(d); d.Remove("n") }},
		{"n given another name", 1000, func(d *disk.Disk) { both(d); d.Rename("n", "x") }},
		{"spoilt files", 1000, func(d *disk.Disk) { put(d, "m", "spoilt"); put(d, "n", "spoilt, too") }},
		{"no room", 0, func(*disk.Disk) {}},
		{"room that is just enough", len(plainBytes(fresher())), func(*disk.Disk) {}},
		{"room that is just too little", len(plainBytes(fresher())) - 1, func(*disk.Disk) {}},
		{"room beside a manifest that is just enough", len(old) + len(plainBytes(fresher())), func(d *disk.Disk) { put(d, "m", old) }},
		{"room beside a manifest that is just too little", len(old) + len(plainBytes(fresher())) - 1, func(d *disk.Disk) { put(d, "m", old) }},
		{"room that is just enough without n", len(old) + len(plainBytes(fresher())), func(d *disk.Disk) { put(d, "m", old); put(d, "n", old) }},
		{"room that is just too little without n", len(old) + len(plainBytes(fresher())) - 1, func(d *disk.Disk) { put(d, "m", old); put(d, "n", old) }},
		{"a name left", 1000, func(d *disk.Disk) { put(d, "m", old); fill(d, 62) }},
		{"no name left", 1000, func(d *disk.Disk) { put(d, "m", old); fill(d, 63) }},
		{"no name left but that of n", 1000, func(d *disk.Disk) { put(d, "m", old); put(d, "n", other); fill(d, 62) }},
		{"no power", 1000, func(d *disk.Disk) { both(d); d.Fuse(0); d.SyncNames() }},
	}
}

// fresher is the manifest that is published over the disks.
func fresher() Manifest {
	return Manifest{Epoch: 3, Base: 70000, Promise: 4, Mark: -5, Check: 70001, Blocks: []string{"b00000001-00070001"}}
}

// keeps is what crashes may keep: all numbers of changes, with none, some and all of the bytes.
func keeps() [][]int {
	l := [][]int{nil}
	for changes := range 12 {
		for _, bytes := range []int{0, 1, 7, 30} {
			l = append(l, append([]int{changes}, slices.Repeat([]int{bytes}, 6)...))
		}
	}
	return l
}

// Promise 17.2: on disks of all kinds, with each fuse, and behind each crash, all is as with the steps by another way.
func TestPublishSteps(t *testing.T) {
	seen := map[api.Errno]int{}
	for _, at := range starts() {
		for fuse := -1; fuse < 9; fuse++ {
			for _, keep := range keeps() {
				d, other := disk.New(at.room), disk.New(at.room)
				at.do(d)
				at.do(other)
				d.Fuse(fuse)
				other.Fuse(fuse)
				e, want := Publish(d, fresher()), plainPublish(other, fresher())
				if e != want || told(d) != told(other) {
					t.Fatalf("%s, fuse %d: %v, %s; want %v, %s", at.name, fuse, e, told(d), want, told(other))
				}
				// One write more tells whether as many have been done.
				if e, want := d.Append("last", ""), other.Append("last", ""); e != want {
					t.Fatalf("%s, fuse %d: one write more: %v; want %v", at.name, fuse, e, want)
				}
				d.Crash(keep)
				other.Crash(keep)
				if told(d) != told(other) {
					t.Fatalf("%s, fuse %d, behind a crash that keeps %d: %s; want %s", at.name, fuse, keep, told(d), told(other))
				}
				seen[want]++
			}
		}
	}
	for _, e := range []api.Errno{api.OK, api.ErrFull, api.ErrDead} {
		if seen[e] == 0 {
			t.Errorf("%v was never asked for", e)
		}
	}
}

// Promise 17.2: the files, written out.
func TestPublishFiles(t *testing.T) {
	d := disk.New(1000)
	must(t, d.Append("a", "x"), d.Append("n", "left"))
	for _, m := range []Manifest{None(), fresher(), good("a", "b"), good()} {
		if e := Publish(d, m); e != api.OK {
			t.Fatalf("Publish: %v", e)
		}
		if l := d.Names(); !slices.Equal(l, []string{"a", "m"}) {
			t.Errorf("Names: %q", l)
		}
		if s, e := d.Read("m"); s != plainBytes(m) || e != api.OK {
			t.Errorf("m: %x, %v; want %x", s, e, plainBytes(m))
		}
		if s, e := d.Read("a"); s != "x" || e != api.OK {
			t.Errorf("a: %q, %v", s, e)
		}
		wantLoad(t, d, m, api.OK)
	}
}

// Promise 17.2: with a new file n four writes are done, and five with an old one.
func TestPublishWrites(t *testing.T) {
	for _, old := range []bool{false, true} {
		writes := 4
		if old {
			writes = 5
		}
		for fuse := range 8 {
			d := disk.New(1000)
			if old {
				put(d, "n", "left")
			}
			d.Fuse(fuse)
			want := api.OK
			if fuse < writes {
				want = api.ErrDead
			}
			if e := Publish(d, fresher()); e != want || d.Up() != (want == api.OK) {
				t.Errorf("with %d writes: %v, %v; want %v", fuse, e, d.Up(), want)
			}
			if d.Up() {
				for range fuse - writes {
					must(t, d.SyncNames())
				}
				if e := d.SyncNames(); e != api.ErrDead {
					t.Errorf("with %d writes: more than %d are left", fuse, fuse-writes)
				}
			}
		}
	}
}

// Promise 17.2: Encode's error stands ahead of the disk's; no write is tried, and nothing is removed.
func TestPublishWrong(t *testing.T) {
	for _, c := range []struct {
		m Manifest
		e api.Errno
	}{
		{Manifest{}, api.ErrRange},
		{Manifest{Epoch: 2, Promise: 1}, api.ErrOrder},
		{good(numbered(17)...), api.ErrLong},
		{good("B"), api.ErrField},
	} {
		for _, at := range starts() {
			d := disk.New(at.room)
			at.do(d)
			d.Fuse(0)
			as := told(d)
			if e := Publish(d, c.m); e != c.e || told(d) != as {
				t.Errorf("%s: Publish of %s: %v, %s; want %v, %s", at.name, brief(c.m), e, told(d), c.e, as)
			}
		}
	}
}

// Promise 17.2: without room the manifest that held holds, ahead of a crash and behind it; with room again the new one is published.
func TestPublishFull(t *testing.T) {
	old := good("old")
	d := disk.New(len(plainBytes(old)) + len(plainBytes(fresher())))
	if e := Publish(d, old); e != api.OK {
		t.Fatalf("Publish: %v", e)
	}
	must(t, d.Append("a", "x"))
	for range 3 {
		if e := Publish(d, fresher()); e != api.ErrFull {
			t.Errorf("Publish without room: %v", e)
		}
		wantLoad(t, d, old, api.OK)
	}
	must(t, d.Remove("a"))
	if e := Publish(d, fresher()); e != api.OK {
		t.Errorf("Publish with room: %v", e)
	}
	wantLoad(t, d, fresher(), api.OK)
	d.Crash(nil)
	wantLoad(t, d, fresher(), api.OK)
}

// Promise 17.2: Load without a file m, whatever other files there are.
func TestLoadNone(t *testing.T) {
	d := disk.New(1000)
	wantLoad(t, d, None(), api.OK)
	for _, name := range []string{"n", "m.", "mm", "-m", "b00000001-00000004", "w00000001"} {
		put(d, name, plainBytes(good("b")))
		wantLoad(t, d, None(), api.OK)
	}
	put(d, "m", plainBytes(good("b")))
	wantLoad(t, d, good("b"), api.OK)
	must(t, d.Remove("m"))
	wantLoad(t, d, None(), api.OK)
}

// Promise 17.2: Load without power is ErrDead, with a file m or without.
func TestLoadDead(t *testing.T) {
	for _, s := range []string{"", plainBytes(good("b")), "spoilt"} {
		d := disk.New(1000)
		if s != "" {
			put(d, "m", s)
		}
		d.Fuse(0)
		if _, e := Load(d); e == api.ErrDead {
			t.Errorf("Load needs a write")
		}
		d.SyncNames()
		wantLoad(t, d, Manifest{}, api.ErrDead)
		d.Crash(nil)
		want, e := plainDecode(s)
		if s == "" {
			want, e = None(), api.OK
		}
		wantLoad(t, d, want, e)
	}
}

// Promise 17.2: Load of a file m that is no manifest's bytes is ErrField, and nothing else is asked for then.
func TestLoadWrong(t *testing.T) {
	right := plainBytes(good("b"))
	for _, s := range []string{"", "spoilt", right[1:], right[:len(right)-1], right + "\x00", right + right, frameBytes(5, plainData(good("b"))), plainBytes(Manifest{}), plainBytes(good("B")), plainBytes(Manifest{Epoch: 2, Promise: 1})} {
		d := disk.New(1000)
		put(d, "n", right)
		put(d, "m", s)
		wantLoad(t, d, Manifest{}, api.ErrField)
	}
}

// Promise 17.2: two disks have a manifest each.
func TestTwoDisks(t *testing.T) {
	one, other := disk.New(1000), disk.New(1000)
	if e := Publish(one, fresher()); e != api.OK {
		t.Fatalf("Publish: %v", e)
	}
	wantLoad(t, other, None(), api.OK)
	if e := Publish(other, good()); e != api.OK {
		t.Fatalf("Publish: %v", e)
	}
	wantLoad(t, one, fresher(), api.OK)
	wantLoad(t, other, good(), api.OK)
}

// wantOne loads one of two manifests behind a crash, the new one if it is sure, and tells it.
func wantOne(t *testing.T, d *disk.Disk, old, next Manifest, sure bool) Manifest {
	t.Helper()
	m, e := Load(d)
	if e != api.OK || !same(m, next) && (sure || !same(m, old)) {
		t.Fatalf("Load behind a crash: %s, %v; want %s or (unless sure: %v) %s", brief(m), e, brief(next), sure, brief(old))
	}
	return m
}

// Promise 17.3: from the first publishing on, and from each later one, wherever the power fails, and whatever is kept. Each outcome is seen.
func TestOneOrTheOther(t *testing.T) {
	for _, held := range []Manifest{None(), good("old"), good(numbered(16)...)} {
		for _, left := range []string{"", "l", strings.Repeat("left", 30), plainBytes(good("left"))} {
			outcomes := map[string]int{}
			for fuse := -1; fuse < 7; fuse++ {
				for _, keep := range keeps() {
					d := disk.New(2000)
					if !same(held, None()) {
						must(t, Publish(d, held))
					}
					if left != "" {
						put(d, "n", left)
					}
					d.Fuse(fuse)
					e := Publish(d, fresher())
					d.Crash(keep)
					m := wantOne(t, d, held, fresher(), e == api.OK)
					outcomes[fmt.Sprint(e == api.OK, same(m, fresher()))]++
					// Whatever was left behind, the next one is published.
					must(t, Publish(d, good("next")))
					d.Crash(nil)
					wantLoad(t, d, good("next"), api.OK)
				}
			}
			for _, one := range []string{"true true", "false true", "false false"} {
				if outcomes[one] == 0 {
					t.Errorf("of published and held there never was %s: %v", one, outcomes)
				}
			}
		}
	}
}

// Promise 17.3: any publishings on one disk, cut short anywhere, with crashes between and without room at times.
func TestAnyPublishings(t *testing.T) {
	for seed := range 1500 {
		next := func(below uint64) int {
			seed += 1000003
			return int(mixed(seed) % below)
		}
		d := disk.New(150 + next(1200))
		held := None()
		for range 12 {
			m := anyRight(next(1 << 40))
			if next(3) > 0 {
				d.Fuse(next(9))
			}
			if next(4) == 0 {
				d.Append(fmt.Sprintf("f%d", next(3)), strings.Repeat("x", next(60)))
			}
			e := Publish(d, m)
			switch e {
			case api.OK:
				held = m
			case api.ErrFull:
				// What is not even begun holds at no crash.
				m = held
			case api.ErrDead:
			default:
				t.Fatalf("Publish: %v", e)
			}
			if d.Up() {
				wantLoad(t, d, held, api.OK)
			}
			if !d.Up() || next(3) == 0 {
				d.Crash([]int{next(20), next(100), next(100), next(100), next(100)})
				held = wantOne(t, d, held, m, e == api.OK)
			}
		}
	}
}

// A manifest is published; the next one is cut short, and the first one holds.
func Example() {
	d := disk.New(1000)
	fmt.Println(Load(d))
	m := None()
	m.Check, m.Blocks = 7, []string{"b00000001-00000007"}
	fmt.Println(Publish(d, m))
	d.Fuse(1)
	m.Epoch, m.Promise = 2, 2
	fmt.Println(Publish(d, m))
	d.Crash(nil)
	fmt.Println(Load(d))
	// Output:
	// {1 0 1 -9223372036854775808 0 []} error 0
	// error 0
	// error 11
	// {1 0 1 -9223372036854775808 7 [b00000001-00000007]} error 0
}
