package xor

import (
	"fmt"
	"math"
	"slices"
	"strconv"
	"strings"
	"testing"

	"barograph/bits"
)

// plainCoder is a coder by another way: on signs 0 and 1.
type plainCoder struct {
	begun  bool
	ahead  uint64
	window bool
	lead   int
	tail   int
}

// put is the signs of the next pattern, and the coder behind it.
func (p plainCoder) put(v uint64) (string, plainCoder) {
	d := fmt.Sprintf("%064b", p.ahead^v)
	behind := p
	behind.begun, behind.ahead = true, v
	first, last := strings.Index(d, "1"), strings.LastIndex(d, "1")
	switch {
	case !p.begun:
		return d, behind
	case first < 0:
		return "0", behind
	case p.window && first >= p.lead && 63-last >= p.tail:
		return "10" + d[p.lead:64-p.tail], behind
	}
	first = min(first, 31)
	behind.window, behind.lead, behind.tail = true, first, 63-last
	return fmt.Sprintf("11%05b%06b%s", first, last-first, d[first:last+1]), behind
}

// get is the next pattern of signs, in how many of them it is, and the coder behind it: what they seem to tell is written again, and must be what they begin with.
func (p plainCoder) get(signs string) (uint64, int, plainCoder, bool) {
	v, ok := p.seen(signs)
	if !ok {
		return 0, 0, p, false
	}
	again, behind := p.put(v)
	if !strings.HasPrefix(signs, again) {
		return 0, 0, p, false
	}
	return v, len(again), behind, true
}

// seen is which pattern signs seem to tell, if there are enough of them.
func (p plainCoder) seen(signs string) (uint64, bool) {
	lead, size, between := 0, 64, signs
	switch {
	case !p.begun:
	case strings.HasPrefix(signs, "0"):
		return p.ahead, true
	case strings.HasPrefix(signs, "10") && p.window:
		lead, size, between = p.lead, 64-p.lead-p.tail, signs[2:]
	case strings.HasPrefix(signs, "11") && len(signs) >= 13:
		lead, size, between = plainNumber(signs[2:7]), plainNumber(signs[7:13])+1, signs[13:]
	default:
		return 0, false
	}
	if len(between) < size || lead+size > 64 {
		return 0, false
	}
	d, err := strconv.ParseUint(strings.Repeat("0", lead)+between[:size]+strings.Repeat("0", 64-lead-size), 2, 64)
	return p.ahead ^ d, err == nil
}

// plainNumber is the number of signs.
func plainNumber(signs string) int {
	n, err := strconv.ParseInt(signs, 2, 64)
	if err != nil {
		panic(err)
	}
	return int(n)
}

// plainRow is the signs of a row of patterns, one text each.
func plainRow(l []uint64) []string {
	var p plainCoder
	var all []string
	for _, v := range l {
		var signs string
		signs, p = p.put(v)
		all = append(all, signs)
	}
	return all
}

// signsOf is the signs of what was written.
func signsOf(w *bits.Writer) string {
	var b strings.Builder
	for _, c := range []byte(w.Text()) {
		fmt.Fprintf(&b, "%08b", c)
	}
	return b.String()[:w.Len()]
}

// bare is signs without the blanks that part them.
func bare(signs string) string { return strings.ReplaceAll(signs, " ", "") }

// writerOf is a writer of signs.
func writerOf(signs string) *bits.Writer {
	w := bits.NewWriter()
	for _, c := range signs {
		w.Put(uint64(c-'0'), 1)
	}
	return w
}

// readerOf is a reader of signs, with bits 1 in the text behind those that are to be read.
func readerOf(signs string) *bits.Reader {
	return bits.NewReader(writerOf(signs+strings.Repeat("1", 80)).Text(), len(signs))
}

// written is a writer to which a row was put by one coder.
func written(l []uint64) *bits.Writer {
	c, w := New(), bits.NewWriter()
	for _, v := range l {
		c.Put(w, v)
	}
	return w
}

// behind is a coder behind a row of patterns, and the same by another way.
func behind(l []uint64) (*Coder, plainCoder) {
	c, w := New(), bits.NewWriter()
	var p plainCoder
	for _, v := range l {
		c.Put(w, v)
		_, p = p.put(v)
	}
	return c, p
}

// mixed is a number that looks like any, the same one for the same i.
func mixed(i int) uint64 {
	x := (uint64(i) + 1) * 0x9E3779B97F4A7C15
	x = (x ^ x>>30) * 0xBF58476D1CE4E5B9
	x = (x ^ x>>27) * 0x94D049BB133111EB
	return x ^ x>>31
}

// edges is leads and tails at which something may change.
var edges = []int{0, 1, 2, 7, 15, 16, 29, 30, 31, 32, 33, 34, 47, 61, 62, 63}

// between is the difference of bits 1 alone between a lead and a tail.
func between(lead, tail int) uint64 { return math.MaxUint64 >> lead >> tail << tail }

// edgeDifferences is differences of such leads and tails: with bits 1 alone between, and with bits 1 at both ends alone.
func edgeDifferences() []uint64 {
	var l []uint64
	for _, lead := range edges {
		for _, tail := range edges {
			if lead+tail < 64 {
				l = append(l, between(lead, tail), 1<<63>>lead|1<<tail)
			}
		}
	}
	return l
}

// rowOf is the row whose differences these are.
func rowOf(differences []uint64) []uint64 {
	var l []uint64
	ahead := uint64(0)
	for _, d := range differences {
		ahead ^= d
		l = append(l, ahead)
	}
	return l
}

// numbersRow is the patterns of numbers with fractions, as they are measured.
func numbersRow() []uint64 {
	var l []uint64
	for i := range 300 {
		l = append(l, math.Float64bits(1013.25+math.Round(math.Sin(float64(i)/9)*50)/10))
	}
	return append(l, math.Float64bits(math.NaN()), math.Float64bits(math.Inf(1)), math.Float64bits(math.Inf(-1)), 0, math.Float64bits(math.Copysign(0, -1)), math.MaxUint64)
}

// rows is rows of patterns: short ones, such as are measured, each lead and tail, each bit alone, and any.
func rows() [][]uint64 {
	l := [][]uint64{nil, {0}, {1}, {math.MaxUint64}, {0, 0}, {0, 0, 1}, {7, 7, 7, 7}, {0, math.MaxUint64, 0, 1, 0}, numbersRow()}
	var single, rising, any, narrow []uint64
	for i := range 64 {
		single = append(single, 1<<i, 1<<i, 0)
		rising = append(rising, 1<<i-1, math.MaxUint64<<i)
		for tail := range 64 - i {
			l = append(l, []uint64{0, between(i, tail)}, []uint64{mixed(i), mixed(i) ^ (1<<63>>i | 1<<tail), mixed(i)})
		}
	}
	for i := range 2000 {
		any = append(any, mixed(i))
		narrow = append(narrow, mixed(i)>>(mixed(i+5000)%64)<<(mixed(i+9000)%64))
	}
	return append(l, single, rising, any, narrow, rowOf(narrow))
}

// wantPut puts a pattern, and holds what is written against signs, and what was written ahead of it against what it was.
func wantPut(t *testing.T, c *Coder, w *bits.Writer, v uint64, signs string) {
	t.Helper()
	ahead := signsOf(w)
	c.Put(w, v)
	if all := signsOf(w); all != ahead+signs {
		t.Errorf("%X put behind %d bits: %d bits, %.150s; want %s", v, len(ahead), len(all), strings.TrimPrefix(all, ahead), signs)
	}
}

func wantGet(t *testing.T, c *Coder, r *bits.Reader, v uint64, size int) {
	t.Helper()
	left := r.Left()
	if u, ok := c.Get(r); u != v || !ok || r.Left() != left-size {
		t.Errorf("with %d bits left: %X, %v, in %d bits; want %X in %d", left, u, ok, left-r.Left(), v, size)
	}
}

func wantNone(t *testing.T, c *Coder, r *bits.Reader, what any) {
	t.Helper()
	if v, ok := c.Get(r); v != 0 || ok {
		t.Errorf("%v: %X, %v; want 0, false", what, v, ok)
	}
}

// Promise 7.1: a row's bits, written out; the first one is the chapter's example.
func TestPutWritten(t *testing.T) {
	noughts := strings.Repeat("0", 64)
	ones := strings.Repeat("1", 64)
	for _, x := range []struct {
		name  string
		l     []uint64
		signs []string
	}{
		{"the example", []uint64{0, 0, 1}, []string{noughts, "0", "1 1 11111 100000 000000000000000000000000000000001"}},
		{"the first one", []uint64{0x0102030405060708}, []string{"00000001 00000010 00000011 00000100 00000101 00000110 00000111 00001000"}},
		{"the first one, all bits", []uint64{math.MaxUint64}, []string{ones}},
		{"the same ones", []uint64{math.MaxUint64, math.MaxUint64, math.MaxUint64}, []string{ones, "0", "0"}},
		{"the highest bit", []uint64{0, 1 << 63}, []string{noughts, "1 1 00000 000000 1"}},
		{"the lowest bit", []uint64{1, 0}, []string{noughts[:63] + "1", "1 1 11111 100000" + noughts[:32] + "1"}},
		{"all bits", []uint64{0, math.MaxUint64}, []string{noughts, "1 1 00000 111111" + ones}},
		{"a lead of 30", []uint64{0, 1 << 33}, []string{noughts, "1 1 11110 000000 1"}},
		{"a lead of 31", []uint64{0, 1 << 32}, []string{noughts, "1 1 11111 000000 1"}},
		{"a lead of 32 counts as 31", []uint64{0, 1 << 31}, []string{noughts, "1 1 11111 000001 01"}},
		{"a lead of 61 counts as 31", []uint64{0, 4}, []string{noughts, "1 1 11111 011110" + noughts[:30] + "1"}},
		{"in the window, at its ends and within", []uint64{0, 0xFF << 40, 0x81 << 40, 0xC1 << 40, 0xC0 << 40}, []string{noughts, "1 1 10000 000111 11111111", "1 0 01111110", "1 0 01000000", "1 0 00000001"}},
		{"beyond the lead, and then beyond the tail", []uint64{0, 3 << 40, 7 << 40, 6<<40 | 1<<39}, []string{noughts, "1 1 10110 000001 11", "1 1 10101 000000 1", "1 1 10111 000001 11"}},
		{"a narrow difference keeps the window", []uint64{0, math.MaxUint64, math.MaxUint64 - 1, math.MaxUint64 >> 1 << 1 >> 1}, []string{noughts, "1 1 00000 111111" + ones, "1 0" + noughts[:63] + "1", "1 0 1" + noughts[:62] + "1"}},
		{"none changes the window not", []uint64{0, 3 << 40, 3 << 40, 1 << 40}, []string{noughts, "1 1 10110 000001 11", "0", "1 0 10"}},
		{"the last window is the one that counts", []uint64{0, 0xFF << 40, 0xFF<<40 | 1, 0xFF << 40, 0xFE << 40}, []string{noughts, "1 1 10000 000111 11111111", "1 1 11111 100000" + noughts[:32] + "1", "1 0" + noughts[:32] + "1", "1 1 10111 000000 1"}},
		{"the first one makes no window", []uint64{0xFF << 40, 0xFE << 40}, []string{noughts[:16] + "11111111" + noughts[:40], "1 1 10111 000000 1"}},
		{"a window with a lead that counts as 31", []uint64{0, 4, 6, 1<<31 | 6, 1<<32 | 1<<31 | 6, 1<<33 | 1<<32 | 1<<31 | 6}, []string{noughts, "1 1 11111 011110" + noughts[:30] + "1", "1 1 11111 011111" + noughts[:31] + "1", "1 0 01" + noughts[:30], "1 0 1" + noughts[:31], "1 1 11110 000000 1"}},
	} {
		c, w := New(), bits.NewWriter()
		for i, v := range x.l {
			if i < len(x.signs) {
				wantPut(t, c, w, v, bare(x.signs[i]))
			}
		}
		if all := bare(strings.Join(x.signs, "")); len(x.l) != len(x.signs) || signsOf(w) != all {
			t.Errorf("%s: %s; want %s", x.name, signsOf(w), all)
		}
	}
}

// Promise 7.1: rows of many kinds, pattern by pattern, against another way.
func TestPutIsPlain(t *testing.T) {
	for _, l := range rows() {
		c, w := New(), bits.NewWriter()
		var p plainCoder
		for _, v := range l[:min(len(l), 300)] {
			var signs string
			signs, p = p.put(v)
			wantPut(t, c, w, v, signs)
		}
		if all := strings.Join(plainRow(l), ""); signsOf(written(l)) != all {
			t.Errorf("a row of %d patterns from %.5X on: other bits than %.200s", len(l), l[:min(len(l), 5)], all)
		}
	}
}

// Promise 7.1: each difference behind each window, at all edges of both.
func TestPutAtEdges(t *testing.T) {
	differences := edgeDifferences()
	for _, d := range differences {
		for _, e := range differences {
			l := rowOf([]uint64{0x0123456789ABCDEF, d, e, d})
			if all := strings.Join(plainRow(l), ""); signsOf(written(l)) != all {
				t.Errorf("the differences %X, %X, %X: %s; want %s", d, e, d, signsOf(written(l)), all)
			}
		}
	}
}

// Promise 7.1: what stands in the writer is no part of a row: behind it, and with other numbers between, the same bits are written, and read again.
func TestAmongOthers(t *testing.T) {
	l := numbersRow()[:80]
	for ahead := range 9 {
		c, w := New(), bits.NewWriter()
		signs := plainRow(l)
		w.Put(0xAAAAAAAA, ahead)
		for i, v := range l {
			wantPut(t, c, w, v, signs[i])
			w.Put(mixed(i), i%11)
		}
		d, r := New(), bits.NewReader(w.Text(), w.Len())
		r.Get(ahead)
		for i, v := range l {
			wantGet(t, d, r, v, len(signs[i]))
			if n, ok := r.Get(i % 11); n != mixed(i)&(1<<(i%11)-1) || !ok {
				t.Fatalf("the number behind %d patterns: %X, %v", i+1, n, ok)
			}
		}
	}
}

// Promise 7.1: a row goes on in another writer, and from another reader: the patterns ahead are the coder's.
func TestOtherWriters(t *testing.T) {
	l := numbersRow()
	signs := plainRow(l)
	c, d := New(), New()
	for i, v := range l {
		w := bits.NewWriter()
		wantPut(t, c, w, v, signs[i])
		wantGet(t, d, bits.NewReader(w.Text(), w.Len()), v, len(signs[i]))
	}
}

// Promise 7.1: a coder is of one type for both directions: what it has put or got is ahead of what it puts and gets next.
func TestBothDirections(t *testing.T) {
	l := rowOf([]uint64{5, 0xFF << 40, 0, 3 << 41, 1, 1 << 20, 0xFF << 40, 0, 1 << 63, 9})
	signs := plainRow(l)
	for way := range 1 << len(l) {
		c := New()
		for i, v := range l {
			if way>>i&1 == 0 {
				wantPut(t, c, bits.NewWriter(), v, signs[i])
			} else {
				wantGet(t, c, readerOf(signs[i]), v, len(signs[i]))
			}
		}
	}
}

// Promise 7.1: what one coder puts or gets is not ahead of another one's patterns (R4).
func TestCodersApart(t *testing.T) {
	a, b := rows()[8][:60], rowOf(rows()[8][:60])
	as, bs := plainRow(a), plainRow(b)
	c, d, e, f := New(), New(), New(), New()
	v, w := bits.NewWriter(), bits.NewWriter()
	r, s := readerOf(strings.Join(as, "")), readerOf(strings.Join(bs, ""))
	for i := range a {
		wantPut(t, c, v, a[i], as[i])
		wantPut(t, d, w, b[i], bs[i])
		wantGet(t, e, r, a[i], len(as[i]))
		wantGet(t, f, s, b[i], len(bs[i]))
	}
}

// Promise 7.1: bits that are no pattern, written out: each way to write a pattern that is not Put's.
func TestGetNotPut(t *testing.T) {
	noughts := strings.Repeat("0", 64)
	for _, x := range []struct {
		name  string
		ahead []uint64
		signs string
	}{
		{"nothing", nil, ""},
		{"a first one with 63 bits", nil, noughts[:63]},
		{"a further one with no bit", []uint64{0}, ""},
		{"one that differs, and no more", []uint64{0}, "1"},
		{"a new window without its lead", []uint64{0}, "1 1"},
		{"a new window with four bits of its lead", []uint64{0}, "1 1 0000"},
		{"a new window without how many bits", []uint64{0}, "1 1 00000"},
		{"a new window with five bits of how many", []uint64{0}, "1 1 00000 00000"},
		{"a new window without its bit", []uint64{0}, "1 1 00000 000000"},
		{"a new window with 63 bits of 64", []uint64{0}, "1 1 00000 111111" + noughts[:62] + "1"},
		{"in a window where there is none", []uint64{0}, "1 0 1" + noughts},
		{"in a window where there is none, behind a pattern with bits", []uint64{0xFF << 40}, "1 0 11111111" + noughts},
		{"in a window where there is none, behind none that differs", []uint64{5, 5, 5}, "1 0" + noughts + noughts},
		{"in a window, no bit 1", []uint64{0, 0xFF << 40}, "1 0 00000000" + noughts},
		{"in a window, without its last bit", []uint64{0, 0xFF << 40}, "1 0 1111111"},
		{"in a window, no bits", []uint64{0, 0xFF << 40}, "1 0"},
		{"a new window with no bit 1", []uint64{0}, "1 1 00000 000000 0" + noughts},
		{"a new window of all bits with no bit 1", []uint64{0}, "1 1 00000 111111" + noughts + noughts},
		{"a new window of a lead of 31 with no bit 1", []uint64{0}, "1 1 11111 100000" + noughts},
		{"a lead that is longer", []uint64{0}, "1 1 00000 000001 01" + noughts},
		{"a lead of 30 that is longer", []uint64{0}, "1 1 11110 000001 01" + noughts},
		{"a tail that is longer", []uint64{0}, "1 1 00000 000001 10" + noughts},
		{"a tail that is longer, with a lead of 31", []uint64{0}, "1 1 11111 000001 10" + noughts},
		{"a lead and bits of 65", []uint64{0}, "1 1 00001 111111" + strings.Repeat("1", 64)},
		{"a lead of 31 and 34 bits", []uint64{0}, "1 1 11111 100001" + strings.Repeat("1", 64)},
		{"a lead of 31 and 64 bits", []uint64{0}, "1 1 11111 111111" + strings.Repeat("1", 64)},
		{"the window in hand once more", []uint64{0, 0xFF << 40}, "1 1 10000 000111 11111111"},
		{"a new window within that in hand", []uint64{0, 0xFF << 40}, "1 1 10001 000101 111111"},
		{"a new window at the end of that in hand", []uint64{0, 0xFF << 40}, "1 1 10111 000000 1"},
		{"a new window at the front of that in hand", []uint64{0, 0xFF << 40}, "1 1 10000 000000 1"},
		{"a new window where that in hand has all bits", []uint64{0, math.MaxUint64}, "1 1 11111 100000" + noughts[:32] + "1"},
		{"a new window where that in hand has a lead of 31", []uint64{0, 1}, "1 1 11111 000000 1"},
	} {
		c, _ := behind(x.ahead)
		wantNone(t, c, readerOf(bare(x.signs)), x.name)
		d, _ := behind(x.ahead)
		wantNone(t, d, bits.NewReader(writerOf(bare(x.signs)).Text(), len(bare(x.signs))), x.name)
	}
}

// Promise 7.1: bits that look much like those that are none, and are Put's.
func TestGetNearly(t *testing.T) {
	noughts := strings.Repeat("0", 64)
	for _, x := range []struct {
		name  string
		ahead []uint64
		signs string
		v     uint64
	}{
		{"a first one with 64 bits", nil, noughts[:63] + "1", 1},
		{"none that differs", []uint64{9}, "0", 9},
		{"a lead of 31 that is longer", []uint64{0}, "1 1 11111 000001 01", 1 << 31},
		{"a lead and bits of 64", []uint64{0}, "1 1 00001 111110" + strings.Repeat("1", 63), math.MaxUint64 >> 1},
		{"a lead of 31 and 33 bits", []uint64{0}, "1 1 11111 100000" + strings.Repeat("1", 33), 1<<33 - 1},
		{"in a window, a lead that is longer", []uint64{0, 0xFF << 40}, "1 0 01111111", 0x80 << 40},
		{"in a window, a tail that is longer", []uint64{0, 0xFF << 40}, "1 0 11111110", 1 << 40},
		{"a new window, by one bit ahead of that in hand", []uint64{0, 0xFF << 40}, "1 1 01111 000000 1", 0x1FF << 40},
		{"a new window, by one bit behind that in hand", []uint64{0, 0xFF << 40}, "1 1 11000 000000 1", 0x1FF << 39},
		{"a new window about that in hand", []uint64{0, 0xFF << 40}, "1 1 01111 001001 1000000001", 0x3FF << 39},
	} {
		c, _ := behind(x.ahead)
		wantGet(t, c, readerOf(bare(x.signs)), x.v, len(bare(x.signs)))
		d, _ := behind(x.ahead)
		wantPut(t, d, bits.NewWriter(), x.v, bare(x.signs))
	}
}

// aheads is patterns behind which further ones are got: with no window, and with windows of many kinds.
func aheads() [][]uint64 {
	l := [][]uint64{{0}, {math.MaxUint64}, {3, 3, 3}, {0, math.MaxUint64, 5}, {0, 1}, {0, 1 << 63}, {0, 1 << 32}, {0, 1 << 31}, {0, 6}, {1, 1 << 63}, {0, 0xFF << 40}, {7, 0xFFFF << 24}, {0, 0xFF << 40, 1 << 3, 1 << 3}}
	for i := range 8 {
		l = append(l, []uint64{mixed(i), mixed(i) ^ mixed(i+50)>>(5*i)<<(3*i)})
	}
	return l
}

// wantGetPlain gets a pattern from signs, and holds it against another way; the coder goes on in the row as the other one does.
func wantGetPlain(t *testing.T, ahead []uint64, signs string) {
	t.Helper()
	c, p := behind(ahead)
	r := readerOf(signs)
	v, size, p, ok := p.get(signs)
	if !ok {
		wantNone(t, c, r, fmt.Sprintf("%X, and behind them %s", ahead, signs))
		return
	}
	wantGet(t, c, r, v, size)
	more, _ := p.put(v ^ 1<<40)
	wantPut(t, c, bits.NewWriter(), v^1<<40, more)
}

// Promise 7.1: all signs in a row, as many as a window and its least bits need, against another way.
func TestGetAllShort(t *testing.T) {
	for _, ahead := range [][]uint64{{0}, {0, 1 << 32}, {0, 3 << 33}, {0, math.MaxUint64}} {
		for n := range 1 << 15 {
			wantGetPlain(t, ahead, fmt.Sprintf("%015b", n))
		}
	}
}

// Promise 7.1: all windows, with bits of many kinds between, too few, just enough and more, behind windows of many kinds, against another way.
func TestGetIsPlain(t *testing.T) {
	for i, ahead := range aheads() {
		for lead := range 32 {
			for less := range 64 {
				if i > 1 && (lead*64+less+i)%5 != 0 {
					continue
				}
				head := fmt.Sprintf("11%05b%06b", lead, less)
				any := fmt.Sprintf("%064b", mixed(lead*64+less))
				for _, bits := range []string{"1" + any[:less], any[:less] + "1", "0" + any[:less], any[:less] + "0", strings.Repeat("1", less+1), strings.Repeat("0", less+1), "1" + strings.Repeat("0", less), strings.Repeat("0", less) + "1"} {
					wantGetPlain(t, ahead, head+bits)
				}
				wantGetPlain(t, ahead, head+strings.Repeat("1", less))
				wantGetPlain(t, ahead, head+"1"+any[:less]+"1011")
			}
		}
		for j := range 500 {
			wantGetPlain(t, ahead, fmt.Sprintf("10%064b", mixed(j)>>(j%64)))
			wantGetPlain(t, ahead, fmt.Sprintf("10%064b", mixed(j))[:j%67])
			wantGetPlain(t, ahead, fmt.Sprintf("%064b%064b", mixed(j), mixed(j+700)))
		}
	}
}

// Promise 7.1: a row that is cut at any place: what is whole is got, and the rest is none.
func TestGetCut(t *testing.T) {
	for _, l := range [][]uint64{{0, 0, 1}, numbersRow()[:12], rowOf([]uint64{5, 0xFF << 40, 0, 3 << 41, 1, 1 << 20, 0, 1 << 63, 9}), {mixed(1), mixed(2), mixed(3)}} {
		signs := plainRow(l)
		all := strings.Join(signs, "")
		for end := range len(all) {
			c, r := New(), readerOf(all[:end])
			at := 0
			for i, v := range l {
				if at+len(signs[i]) > end {
					break
				}
				wantGet(t, c, r, v, len(signs[i]))
				at += len(signs[i])
			}
			wantNone(t, c, r, fmt.Sprintf("%X, %d bits", l, end))
		}
	}
}

// wantAgain reads a row that was written, by another coder, and none behind it.
func wantAgain(t *testing.T, l []uint64) {
	t.Helper()
	w := written(l)
	c, r := New(), bits.NewReader(w.Text(), w.Len())
	for i, v := range l {
		if u, ok := c.Get(r); u != v || !ok {
			t.Fatalf("pattern %d of %d: %X, %v; want %X", i, len(l), u, ok, v)
		}
	}
	if r.Left() != 0 {
		t.Errorf("%d patterns from %.5X on: left %d", len(l), l[:min(len(l), 5)], r.Left())
	}
	wantNone(t, c, r, "behind the last one")
}

// Promise 7.2: what is written by one coder is read by another one.
func TestReadAgain(t *testing.T) {
	for _, l := range rows() {
		wantAgain(t, l)
	}
	differences := edgeDifferences()
	for i, d := range differences {
		for _, e := range differences {
			wantAgain(t, rowOf([]uint64{mixed(i), d, e, 0, d}))
		}
	}
}

// Promise 7.2: a row that is longer than any limit, too (R6).
func TestReadMuch(t *testing.T) {
	const count = 200000
	l := make([]uint64, count)
	for i := range l {
		l[i] = mixed(i / 3)
		if i%7 > 0 {
			l[i] = l[i-1] ^ mixed(i)>>50<<20
		}
	}
	wantAgain(t, l)
}

// Promise 7.2: any bits, as far as they are a row, are written again as they were.
func TestWriteAgain(t *testing.T) {
	for i := range 300 {
		var b strings.Builder
		for j := range 20 {
			fmt.Fprintf(&b, "%064b", mixed(i*20+j)|mixed(i*20+j+9000)>>(i%3))
		}
		all := b.String()
		c, d, r, w := New(), New(), readerOf(all), bits.NewWriter()
		for read := len(all) - r.Left(); ; read = len(all) - r.Left() {
			if again := signsOf(w); again != all[:read] {
				t.Fatalf("%s was read, and written again as %s", all[:read], again)
			}
			v, ok := c.Get(r)
			if !ok {
				break
			}
			d.Put(w, v)
		}
		if w.Len() < 64 {
			t.Errorf("no pattern of %s", all)
		}
	}
}

// Promise 7.2: of all short rows of some patterns no two have the same bits.
func TestRowsDiffer(t *testing.T) {
	patterns := []uint64{0, 1, 2, 3, 1 << 31, 1 << 32, 1<<63 | 1, math.MaxUint64}
	seen := map[string][]uint64{}
	level := [][]uint64{nil}
	for range 5 {
		var longer [][]uint64
		for _, l := range level {
			for _, v := range patterns {
				longer = append(longer, append(slices.Clone(l), v))
			}
		}
		for _, l := range longer {
			s := signsOf(written(l))
			if m, ok := seen[s]; ok {
				t.Fatalf("%X and %X have the same bits: %s", m, l, s)
			}
			seen[s] = l
		}
		level = longer
	}
}

// Promise 7.2: of two rows that differ in one bit of one pattern the bits differ.
func TestBitsDiffer(t *testing.T) {
	for _, l := range [][]uint64{numbersRow()[:10], {0, 0, 0, 0}, rowOf([]uint64{5, 0xFF << 40, 0, 3 << 41, 1}), {mixed(1), mixed(2), mixed(3)}} {
		s := signsOf(written(l))
		for i := range l {
			for bit := range 64 {
				m := slices.Clone(l)
				m[i] ^= 1 << bit
				if signsOf(written(m)) == s {
					t.Errorf("%X and %X have the same bits", l, m)
				}
			}
			if signsOf(written(l[:i])) == s {
				t.Errorf("%X has the same bits without its end from %d on", l, i)
			}
		}
	}
}

// FuzzRow: any bytes as bits, read against another way and written again; and as a row of patterns, written and read again.
func FuzzRow(f *testing.F) {
	f.Add(written([]uint64{0, 0, 1}).Text(), 111)
	f.Add(written([]uint64{5, 5 ^ 0xFF<<40, 9, 1, 1 << 63}).Text(), 1000)
	f.Add("\x00\x01\x02\x03\x04\x05\x06\x07\xff\xff", 70)
	f.Fuzz(func(t *testing.T, s string, end int) {
		end = max(0, min(end, 8*len(s)))
		signs := signsOf(writerOfBytes(s))[:end]
		c, d, r, w := New(), New(), bits.NewReader(s, end), bits.NewWriter()
		var p plainCoder
		at := 0
		for {
			v, size, next, ok := p.get(signs[at:])
			if !ok {
				break
			}
			wantGet(t, c, r, v, size)
			d.Put(w, v)
			at, p = at+size, next
		}
		wantNone(t, c, r, signs)
		if again := signsOf(w); again != signs[:at] {
			t.Errorf("%s was read, and written again as %s", signs[:at], again)
		}
		var differences []uint64
		for i, b := range []byte(s) {
			differences = append(differences, uint64(b)<<(mixed(i+int(b))%64)>>(mixed(i)%3))
		}
		l := rowOf(differences)
		if all := strings.Join(plainRow(l), ""); signsOf(written(l)) != all {
			t.Errorf("%X: other bits than %s", l, all)
		}
		wantAgain(t, l)
	})
}

// writerOfBytes is a writer of a text's bits.
func writerOfBytes(s string) *bits.Writer {
	w := bits.NewWriter()
	for _, c := range []byte(s) {
		w.Put(uint64(c), 8)
	}
	return w
}

// A row is written by one coder, and read again by another one.
func Example() {
	c, w := New(), bits.NewWriter()
	for _, v := range []uint64{0, 0, 1} {
		c.Put(w, v)
		fmt.Println(w.Len(), "bits")
	}
	fmt.Printf("%x\n", w.Text())
	d, r := New(), bits.NewReader(w.Text(), w.Len())
	for range 4 {
		fmt.Println(d.Get(r))
	}
	// Output:
	// 64 bits
	// 65 bits
	// 111 bits
	// 00000000000000007f8000000002
	// 0 true
	// 0 true
	// 1 true
	// 0 false
}
