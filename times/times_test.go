package times

import (
	"fmt"
	"math"
	"math/big"
	"strings"
	"testing"

	"barograph/bits"
)

// plainCoder is a coder by another way: on signs 0 and 1, with numbers of any size.
type plainCoder struct {
	begun    bool
	ahead    int64
	distance int64
}

// wrapped is a number of any size, wrapped round into 64 bits with a sign.
func wrapped(n *big.Int) int64 {
	round := new(big.Int).Lsh(big.NewInt(1), 64)
	n = new(big.Int).Mod(n, round)
	if n.Bit(63) == 1 {
		n.Sub(n, round)
	}
	return n.Int64()
}

// plainSum is a and b, wrapped round.
func plainSum(a, b int64) int64 { return wrapped(new(big.Int).Add(big.NewInt(a), big.NewInt(b))) }

// plainLess is a less b, wrapped round.
func plainLess(a, b int64) int64 { return wrapped(new(big.Int).Sub(big.NewInt(a), big.NewInt(b))) }

// plainChange is the signs of a change.
func plainChange(c int64) string {
	switch {
	case c == 0:
		return "0"
	case c >= -63 && c <= 64:
		return fmt.Sprintf("10%07b", c+63)
	case c >= -255 && c <= 256:
		return fmt.Sprintf("110%09b", c+255)
	case c >= -2047 && c <= 2048:
		return fmt.Sprintf("1110%012b", c+2047)
	}
	return fmt.Sprintf("1111%064b", uint64(c))
}

// put is the signs of the next time, and the coder behind it.
func (p plainCoder) put(t int64) (string, plainCoder) {
	if !p.begun {
		return fmt.Sprintf("%064b", uint64(t)), plainCoder{begun: true, ahead: t}
	}
	distance := plainLess(t, p.ahead)
	return plainChange(plainLess(distance, p.distance)), plainCoder{true, t, distance}
}

// get is the next time of signs, in how many of them it is, and the coder behind it: what they seem to tell is written again, and must be what they begin with.
func (p plainCoder) get(signs string) (int64, int, plainCoder, bool) {
	v, ok := p.seen(signs)
	if !ok {
		return 0, 0, p, false
	}
	again, behind := p.put(v)
	if !strings.HasPrefix(signs, again) {
		return 0, 0, p, false
	}
	return v, len(again), behind, true
}

// seen is which time signs seem to tell, if there are enough of them.
func (p plainCoder) seen(signs string) (int64, bool) {
	if !p.begun {
		return plainNumber(signs, 64, 0)
	}
	change, ok := int64(0), true
	switch {
	case strings.HasPrefix(signs, "0"):
	case strings.HasPrefix(signs, "10"):
		change, ok = plainNumber(signs[2:], 7, 63)
	case strings.HasPrefix(signs, "110"):
		change, ok = plainNumber(signs[3:], 9, 255)
	case strings.HasPrefix(signs, "1110"):
		change, ok = plainNumber(signs[4:], 12, 2047)
	case strings.HasPrefix(signs, "1111"):
		change, ok = plainNumber(signs[4:], 64, 0)
	default:
		ok = false
	}
	return plainSum(plainSum(p.ahead, p.distance), change), ok
}

// plainNumber is the number of so many signs, with so much taken from it.
func plainNumber(signs string, size int, added int64) (int64, bool) {
	if len(signs) < size {
		return 0, false
	}
	n, ok := new(big.Int).SetString(signs[:size], 2)
	return plainLess(wrapped(n), added), ok
}

// plainRow is the signs of a row of times, one text each.
func plainRow(l []int64) []string {
	var p plainCoder
	var all []string
	for _, v := range l {
		var signs string
		signs, p = p.put(v)
		all = append(all, signs)
	}
	return all
}

// signsOf is the signs of what was written.
func signsOf(w *bits.Writer) string {
	var b strings.Builder
	for _, c := range []byte(w.Text()) {
		fmt.Fprintf(&b, "%08b", c)
	}
	return b.String()[:w.Len()]
}

// bare is signs without the blanks that part them.
func bare(signs string) string { return strings.ReplaceAll(signs, " ", "") }

// writerOf is a writer of signs.
func writerOf(signs string) *bits.Writer {
	w := bits.NewWriter()
	for _, c := range signs {
		w.Put(uint64(c-'0'), 1)
	}
	return w
}

// readerOf is a reader of signs, with bits 1 in the text behind those that are to be read.
func readerOf(signs string) *bits.Reader {
	return bits.NewReader(writerOf(signs+strings.Repeat("1", 80)).Text(), len(signs))
}

// written is a writer to which a row was put by one coder.
func written(l []int64) *bits.Writer {
	c, w := New(), bits.NewWriter()
	for _, v := range l {
		c.Put(w, v)
	}
	return w
}

// behind is a coder behind a row of times, and the same by another way.
func behind(l []int64) (*Coder, plainCoder) {
	c, w := New(), bits.NewWriter()
	var p plainCoder
	for _, v := range l {
		c.Put(w, v)
		_, p = p.put(v)
	}
	return c, p
}

// mixed is a number that looks like any, the same one for the same i.
func mixed(i int) uint64 {
	x := (uint64(i) + 1) * 0x9E3779B97F4A7C15
	x = (x ^ x>>30) * 0xBF58476D1CE4E5B9
	x = (x ^ x>>27) * 0x94D049BB133111EB
	return x ^ x>>31
}

// rowOf is the row of times from one on, with these changes.
func rowOf(first int64, changes ...int64) []int64 {
	l := []int64{first}
	ahead, distance := first, int64(0)
	for _, c := range changes {
		distance = plainSum(distance, c)
		ahead = plainSum(ahead, distance)
		l = append(l, ahead)
	}
	return l
}

// edgeChanges is changes at the ranges' ends, and at those of the type, and about them.
func edgeChanges() []int64 {
	var l []int64
	for _, c := range []int64{0, 63, 64, 127, 128, 255, 256, 511, 512, 2047, 2048, 4095, 4096, 1 << 31, 1 << 32, 1 << 62} {
		for _, about := range []int64{-1, 0, 1} {
			l = append(l, c+about, -c+about)
		}
	}
	return append(l, math.MaxInt64, math.MaxInt64-1, math.MaxInt64-2047, math.MaxInt64-2046, math.MinInt64, math.MinInt64+1, math.MinInt64+2046, math.MinInt64+2047, math.MinInt64+2048)
}

// measuredRow is times as they are measured: at a distance that is nearly the same, with some that are late, and some that are lost.
func measuredRow() []int64 {
	var l []int64
	at := int64(1_700_000_000_000)
	for i := range 300 {
		at += 15_000
		if i%40 == 39 {
			at += 15_000 * int64(i%7)
		}
		late := int64(0)
		switch i % 9 {
		case 3:
			late = int64(mixed(i) % 50)
		case 5:
			late = int64(mixed(i) % 200)
		case 8:
			late = int64(mixed(i) % 3000)
		}
		l = append(l, at+late)
	}
	return l
}

// rows is rows of times: short ones, such as are measured, falling ones, each bit alone, changes of all sizes, and any.
func rows() [][]int64 {
	l := [][]int64{nil, {0}, {1}, {-1}, {math.MaxInt64}, {math.MinInt64}, {0, 0, 0, 0}, {100, 160, 220}, {220, 160, 100}, {math.MaxInt64, math.MinInt64, math.MaxInt64, 0, math.MinInt64, math.MinInt64}, measuredRow()}
	var single, any, narrow, sized []int64
	for i := range 64 {
		single = append(single, 1<<i, 1<<i, 0)
	}
	for i := range 2000 {
		any = append(any, int64(mixed(i)))
		narrow = append(narrow, int64(mixed(i))>>(mixed(i+5000)%64))
		sized = append(sized, int64(mixed(i)%uint64([]int{1, 128, 512, 4096, 10000}[i%5]))-int64([]int{0, 63, 255, 2047, 5000}[i%5]))
	}
	return append(l, single, any, narrow, rowOf(0, narrow...), rowOf(math.MaxInt64-40000, sized...), rowOf(5, edgeChanges()...))
}

// wantPut puts a time, and holds what is written against signs, and what was written ahead of it against what it was.
func wantPut(t *testing.T, c *Coder, w *bits.Writer, v int64, signs string) {
	t.Helper()
	ahead := signsOf(w)
	c.Put(w, v)
	if all := signsOf(w); all != ahead+signs {
		t.Errorf("%d put behind %d bits: %d bits, %.150s; want %s", v, len(ahead), len(all), strings.TrimPrefix(all, ahead), signs)
	}
}

func wantGet(t *testing.T, c *Coder, r *bits.Reader, v int64, size int) {
	t.Helper()
	left := r.Left()
	if u, ok := c.Get(r); u != v || !ok || r.Left() != left-size {
		t.Errorf("with %d bits left: %d, %v, in %d bits; want %d in %d", left, u, ok, left-r.Left(), v, size)
	}
}

func wantNone(t *testing.T, c *Coder, r *bits.Reader, what any) {
	t.Helper()
	if v, ok := c.Get(r); v != 0 || ok {
		t.Errorf("%v: %d, %v; want 0, false", what, v, ok)
	}
}

// Promise 8.1: a row's bits, written out; the first one is the chapter's example.
func TestPutWritten(t *testing.T) {
	noughts := strings.Repeat("0", 64)
	ones := strings.Repeat("1", 64)
	hundred := noughts[:57] + "1100100"
	for _, x := range []struct {
		name  string
		l     []int64
		signs []string
	}{
		{"the example", []int64{100, 160, 220}, []string{hundred, "10 1111011", "0"}},
		{"the first one", []int64{0x0102030405060708}, []string{"00000001 00000010 00000011 00000100 00000101 00000110 00000111 00001000"}},
		{"the first one, below 0", []int64{-1}, []string{ones}},
		{"the first one, the least", []int64{math.MinInt64}, []string{"1" + noughts[:63]}},
		{"the first one, the greatest", []int64{math.MaxInt64}, []string{"0" + ones[:63]}},
		{"the same ones", []int64{100, 100, 100}, []string{hundred, "0", "0"}},
		{"the first one's distance is 0, not it", []int64{100, 200, 300}, []string{hundred, "110 101100011", "0"}},
		{"changes of 1 and -1", []int64{0, 1, 1, 2}, []string{noughts, "10 1000000", "10 0111110", "10 1000000"}},
		{"a change of 64", []int64{0, 64}, []string{noughts, "10 1111111"}},
		{"a change of 65", []int64{0, 65}, []string{noughts, "110 101000000"}},
		{"a change of -63", []int64{0, -63}, []string{noughts, "10 0000000"}},
		{"a change of -64", []int64{0, -64}, []string{noughts, "110 010111111"}},
		{"a change of 256", []int64{0, 256}, []string{noughts, "110 111111111"}},
		{"a change of 257", []int64{0, 257}, []string{noughts, "1110 100100000000"}},
		{"a change of -255", []int64{0, -255}, []string{noughts, "110 000000000"}},
		{"a change of -256", []int64{0, -256}, []string{noughts, "1110 011011111111"}},
		{"a change of 2048", []int64{0, 2048}, []string{noughts, "1110 111111111111"}},
		{"a change of 2049", []int64{0, 2049}, []string{noughts, "1111" + noughts[:52] + "100000000001"}},
		{"a change of -2047", []int64{0, -2047}, []string{noughts, "1110 000000000000"}},
		{"a change of -2048", []int64{0, -2048}, []string{noughts, "1111" + ones[:53] + "00000000000"}},
		{"the greatest change", []int64{0, math.MaxInt64}, []string{noughts, "1111 0" + ones[:63]}},
		{"the least change", []int64{0, math.MinInt64}, []string{noughts, "1111 1" + noughts[:63]}},
		{"a distance that is less: the change is below 0", []int64{0, 60, 119}, []string{noughts, "10 1111011", "10 0111110"}},
		{"a distance below 0 stays", []int64{0, -60, -120, -180}, []string{noughts, "10 0000011", "0", "0"}},
		{"a change, and back", []int64{0, 0, 300, 600, 600, 600}, []string{noughts, "0", "1110 100100101011", "0", "1110 011011010011", "0"}},
		{"a time wraps round upwards", []int64{math.MaxInt64, math.MinInt64, math.MinInt64 + 1}, []string{"0" + ones[:63], "10 1000000", "0"}},
		{"a time wraps round downwards", []int64{math.MinInt64 + 1, math.MaxInt64, math.MaxInt64 - 2}, []string{"1" + noughts[:62] + "1", "10 0111101", "0"}},
		{"a change wraps round upwards", []int64{0, math.MaxInt64, -1, math.MinInt64}, []string{noughts, "1111 0" + ones[:63], "10 1000000", "10 1000000"}},
		{"a change wraps round downwards", []int64{0, math.MinInt64, math.MinInt64}, []string{noughts, "1111 1" + noughts[:63], "1111 1" + noughts[:63]}},
	} {
		c, w := New(), bits.NewWriter()
		for i, v := range x.l {
			if i < len(x.signs) {
				wantPut(t, c, w, v, bare(x.signs[i]))
			}
		}
		if all := bare(strings.Join(x.signs, "")); len(x.l) != len(x.signs) || signsOf(w) != all {
			t.Errorf("%s: %s; want %s", x.name, signsOf(w), all)
		}
	}
}

// Promise 8.1: rows of many kinds, time by time, against another way.
func TestPutIsPlain(t *testing.T) {
	for _, l := range rows() {
		c, w := New(), bits.NewWriter()
		var p plainCoder
		for _, v := range l[:min(len(l), 300)] {
			var signs string
			signs, p = p.put(v)
			wantPut(t, c, w, v, signs)
		}
		if all := strings.Join(plainRow(l), ""); signsOf(written(l)) != all {
			t.Errorf("a row of %d times from %.5d on: other bits than %.200s", len(l), l[:min(len(l), 5)], all)
		}
	}
}

// aheads is times behind which further ones are put and got: of one time and of several, at distances of all kinds.
func aheads() [][]int64 {
	l := [][]int64{{0}, {100}, {-1}, {math.MaxInt64}, {math.MinInt64}, {5, 5}, {100, 160, 220}, {220, 160}, {0, 3000, 2900}, {math.MaxInt64, math.MinInt64}, {math.MinInt64, math.MaxInt64 - 90}, {0, math.MaxInt64}, {0, math.MinInt64}, {-1, math.MaxInt64, math.MinInt64}}
	for i := range 6 {
		l = append(l, []int64{int64(mixed(i)), int64(mixed(i+50)) >> (9 * i)})
	}
	return l
}

// wantChange puts and gets the time of a change behind times, and one more at the same distance.
func wantChange(t *testing.T, ahead []int64, change int64, signs string) {
	t.Helper()
	c, p := behind(ahead)
	d, _ := behind(ahead)
	distance := plainSum(p.distance, change)
	v := plainSum(p.ahead, distance)
	w := bits.NewWriter()
	wantPut(t, c, w, v, signs)
	wantPut(t, c, w, plainSum(v, distance), "0")
	r := readerOf(signs + "0")
	wantGet(t, d, r, v, len(signs))
	wantGet(t, d, r, plainSum(v, distance), 1)
}

// Promise 8.1: each change of the ranges, and about them, and at the ends of the type, behind times of many kinds.
func TestEachChange(t *testing.T) {
	for c := int64(-2100); c <= 2100; c++ {
		wantChange(t, []int64{int64(mixed(int(c + 2100))), 7}, c, plainChange(c))
	}
	for _, ahead := range aheads() {
		for _, c := range edgeChanges() {
			wantChange(t, ahead, c, plainChange(c))
		}
		for i := range 200 {
			c := int64(mixed(i)) >> (mixed(i+500) % 64)
			wantChange(t, ahead, c, plainChange(c))
		}
	}
}

// Promise 8.1: how many bits a change costs, at the ends of each range.
func TestChangeCosts(t *testing.T) {
	for _, x := range []struct {
		low, high int64
		cost      int
	}{
		{0, 0, 1},
		{-63, -1, 9},
		{1, 64, 9},
		{-255, -64, 12},
		{65, 256, 12},
		{-2047, -256, 16},
		{257, 2048, 16},
		{math.MinInt64, -2048, 68},
		{2049, math.MaxInt64, 68},
	} {
		for _, c := range []int64{x.low, x.high, x.low/2 + x.high/2} {
			w := written(rowOf(40, 3, c))
			if w.Len() != 64+9+x.cost {
				t.Errorf("a change of %d: %d bits, want %d", c, w.Len()-64-9, x.cost)
			}
		}
	}
}

// Promise 8.1: what stands in the writer is no part of a row: behind it, and with other numbers between, the same bits are written, and read again.
func TestAmongOthers(t *testing.T) {
	l := measuredRow()[:80]
	for ahead := range 9 {
		c, w := New(), bits.NewWriter()
		signs := plainRow(l)
		w.Put(0xAAAAAAAA, ahead)
		for i, v := range l {
			wantPut(t, c, w, v, signs[i])
			w.Put(mixed(i), i%11)
		}
		d, r := New(), bits.NewReader(w.Text(), w.Len())
		r.Get(ahead)
		for i, v := range l {
			wantGet(t, d, r, v, len(signs[i]))
			if n, ok := r.Get(i % 11); n != mixed(i)&(1<<(i%11)-1) || !ok {
				t.Fatalf("the number behind %d times: %X, %v", i+1, n, ok)
			}
		}
	}
}

// Promise 8.1: a row goes on in another writer, and from another reader: the times ahead are the coder's.
func TestOtherWriters(t *testing.T) {
	l := measuredRow()
	signs := plainRow(l)
	c, d := New(), New()
	for i, v := range l {
		w := bits.NewWriter()
		wantPut(t, c, w, v, signs[i])
		wantGet(t, d, bits.NewReader(w.Text(), w.Len()), v, len(signs[i]))
	}
}

// Promise 8.1: a coder is of one type for both directions: what it has put or got is ahead of what it puts and gets next.
func TestBothDirections(t *testing.T) {
	l := rowOf(1000, 60, 0, -1, 65, -256, 3000, 0, math.MinInt64, -2047)
	signs := plainRow(l)
	for way := range 1 << len(l) {
		c := New()
		for i, v := range l {
			if way>>i&1 == 0 {
				wantPut(t, c, bits.NewWriter(), v, signs[i])
			} else {
				wantGet(t, c, readerOf(signs[i]), v, len(signs[i]))
			}
		}
	}
}

// Promise 8.1: what one coder puts or gets is not ahead of another one's times (R4).
func TestCodersApart(t *testing.T) {
	a, b := measuredRow()[:60], rowOf(-5, measuredRow()[:59]...)
	as, bs := plainRow(a), plainRow(b)
	c, d, e, f := New(), New(), New(), New()
	v, w := bits.NewWriter(), bits.NewWriter()
	r, s := readerOf(strings.Join(as, "")), readerOf(strings.Join(bs, ""))
	for i := range a {
		wantPut(t, c, v, a[i], as[i])
		wantPut(t, d, w, b[i], bs[i])
		wantGet(t, e, r, a[i], len(as[i]))
		wantGet(t, f, s, b[i], len(bs[i]))
	}
}

// Promise 8.1: bits that are no time, written out: too few, and each way to write a time that is not Put's.
func TestGetNotPut(t *testing.T) {
	noughts := strings.Repeat("0", 64)
	ones := strings.Repeat("1", 64)
	for _, x := range []struct {
		name  string
		ahead []int64
		signs string
	}{
		{"nothing", nil, ""},
		{"a first one with 63 bits", nil, noughts[:63]},
		{"a further one with no bit", []int64{0}, ""},
		{"a head of 1", []int64{0}, "1"},
		{"a head of 11", []int64{0}, "11"},
		{"a head of 111", []int64{0}, "111"},
		{"a head of 10 alone", []int64{0}, "10"},
		{"six bits of seven", []int64{0}, "10 111111"},
		{"a head of 110 alone", []int64{0}, "110"},
		{"eight bits of nine", []int64{0}, "110 11111111"},
		{"a head of 1110 alone", []int64{0}, "1110"},
		{"eleven bits of twelve", []int64{0}, "1110 11111111111"},
		{"a head of 1111 alone", []int64{0}, "1111"},
		{"63 bits of 64", []int64{0}, "1111 0" + ones[:62]},
		{"0 in seven bits", []int64{0}, "10 0111111"},
		{"0 in nine bits", []int64{0}, "110 011111111"},
		{"0 in twelve bits", []int64{0}, "1110 011111111111"},
		{"0 in 64 bits", []int64{0}, "1111" + noughts},
		{"0 in seven bits, at a distance", []int64{100, 160}, "10 0111111"},
		{"0 in 64 bits, at a distance", []int64{100, 160}, "1111" + noughts},
		{"-63 in nine bits", []int64{100, 160}, "110 011000000"},
		{"64 in nine bits", []int64{100, 160}, "110 100111111"},
		{"-63 in twelve bits", []int64{100, 160}, "1110 011111000000"},
		{"64 in twelve bits", []int64{100, 160}, "1110 100000111111"},
		{"-64 in twelve bits", []int64{100, 160}, "1110 011110111111"},
		{"65 in twelve bits", []int64{100, 160}, "1110 100001000000"},
		{"-255 in twelve bits", []int64{100, 160}, "1110 011100000000"},
		{"256 in twelve bits", []int64{100, 160}, "1110 100011111111"},
		{"1 in 64 bits", []int64{5}, "1111" + noughts[:63] + "1"},
		{"-1 in 64 bits", []int64{5}, "1111" + ones},
		{"-64 in 64 bits", []int64{5}, "1111" + ones[:57] + "1000000"},
		{"65 in 64 bits", []int64{5}, "1111" + noughts[:57] + "1000001"},
		{"257 in 64 bits", []int64{5}, "1111" + noughts[:55] + "100000001"},
		{"2048 in 64 bits", []int64{5}, "1111" + noughts[:52] + "100000000000"},
		{"-2047 in 64 bits", []int64{5}, "1111" + ones[:53] + "00000000001"},
		{"1 in 64 bits, where the time wraps round", []int64{math.MaxInt64}, "1111" + noughts[:63] + "1"},
	} {
		c, _ := behind(x.ahead)
		wantNone(t, c, readerOf(bare(x.signs)), x.name)
		d, _ := behind(x.ahead)
		wantNone(t, d, bits.NewReader(writerOf(bare(x.signs)).Text(), len(bare(x.signs))), x.name)
	}
}

// Promise 8.1: each change of a range, written in each further range: none of these is Put's.
func TestGetSecondWays(t *testing.T) {
	for _, ahead := range [][]int64{{0}, {100, 160}, {math.MaxInt64 - 3, math.MaxInt64}, {math.MinInt64}} {
		for c := int64(-2047); c <= 2048; c++ {
			for _, x := range []struct {
				low, high int64
				signs     func() string
			}{
				{0, 0, func() string { return fmt.Sprintf("10%07b", c+63) }},
				{-63, 64, func() string { return fmt.Sprintf("110%09b", c+255) }},
				{-255, 256, func() string { return fmt.Sprintf("1110%012b", c+2047) }},
				{-2047, 2048, func() string { return fmt.Sprintf("1111%064b", uint64(c)) }},
			} {
				if x.low <= c && c <= x.high {
					d, _ := behind(ahead)
					wantNone(t, d, readerOf(x.signs()), fmt.Sprintf("%d, and behind them a change of %d as %s", ahead, c, x.signs()))
				}
			}
		}
	}
}

// Promise 8.1: bits that look much like those that are none, and are Put's.
func TestGetNearly(t *testing.T) {
	noughts := strings.Repeat("0", 64)
	ones := strings.Repeat("1", 64)
	for _, x := range []struct {
		name  string
		ahead []int64
		signs string
		v     int64
	}{
		{"a first one with 64 bits", nil, ones, -1},
		{"a change of 0", []int64{9}, "0", 9},
		{"a change of 0, at a distance", []int64{100, 160}, "0", 220},
		{"-1 in seven bits", []int64{9}, "10 0111110", 8},
		{"1 in seven bits", []int64{9}, "10 1000000", 10},
		{"-64 in nine bits", []int64{100}, "110 010111111", 36},
		{"65 in nine bits", []int64{100}, "110 101000000", 165},
		{"-256 in twelve bits", []int64{100}, "1110 011011111111", -156},
		{"257 in twelve bits", []int64{100}, "1110 100100000000", 357},
		{"-2048 in 64 bits", []int64{100}, "1111" + ones[:53] + "00000000000", -1948},
		{"2049 in 64 bits", []int64{100}, "1111" + noughts[:52] + "100000000001", 2149},
		{"the greatest change", []int64{1}, "1111 0" + ones[:63], math.MinInt64},
		{"the least change", []int64{-1}, "1111 1" + noughts[:63], math.MaxInt64},
	} {
		c, _ := behind(x.ahead)
		wantGet(t, c, readerOf(bare(x.signs)), x.v, len(bare(x.signs)))
		d, _ := behind(x.ahead)
		wantPut(t, d, bits.NewWriter(), x.v, bare(x.signs))
	}
}

// wantGetPlain gets a time from signs, and holds it against another way; the coder goes on in the row as the other one does.
func wantGetPlain(t *testing.T, ahead []int64, signs string) {
	t.Helper()
	c, p := behind(ahead)
	r := readerOf(signs)
	v, size, p, ok := p.get(signs)
	if !ok {
		wantNone(t, c, r, fmt.Sprintf("%d, and behind them %s", ahead, signs))
		return
	}
	wantGet(t, c, r, v, size)
	next := plainSum(v, 700)
	more, _ := p.put(next)
	wantPut(t, c, bits.NewWriter(), next, more)
}

// Promise 8.1: all signs in a row, as many as twelve bits with their head need, against another way.
func TestGetAllShort(t *testing.T) {
	for _, ahead := range [][]int64{{0}, {100, 160}, {math.MaxInt64, math.MinInt64}} {
		for n := range 1 << 16 {
			wantGetPlain(t, ahead, fmt.Sprintf("%016b", n))
		}
	}
}

// Promise 8.1: 64 bits of all kinds, as many and fewer, with others behind them, against another way.
func TestGetIsPlain(t *testing.T) {
	for _, ahead := range append(aheads(), nil) {
		for _, c := range edgeChanges() {
			wantGetPlain(t, ahead, fmt.Sprintf("1111%064b", uint64(c)))
			wantGetPlain(t, ahead, fmt.Sprintf("1111%064b101", uint64(c)))
			wantGetPlain(t, ahead, fmt.Sprintf("1111%064b", uint64(c))[:67])
			wantGetPlain(t, ahead, fmt.Sprintf("%064b", uint64(c)))
		}
		for i := range 300 {
			wantGetPlain(t, ahead, fmt.Sprintf("1111%064b", mixed(i)>>(i%64)))
			wantGetPlain(t, ahead, fmt.Sprintf("1111%064b", int64(mixed(i))>>(i%64)&math.MaxInt64))
			wantGetPlain(t, ahead, fmt.Sprintf("1111%064b", mixed(i))[:i%69])
			wantGetPlain(t, ahead, fmt.Sprintf("%064b%064b", mixed(i), mixed(i+700)))
		}
	}
}

// Promise 8.1: a row that is cut at any place: what is whole is got, and the rest is none.
func TestGetCut(t *testing.T) {
	for _, l := range [][]int64{{100, 160, 220}, measuredRow()[:20], rowOf(-9, 0, 64, -64, 256, -256, 2048, -2048, 0, math.MaxInt64, 1), {int64(mixed(1)), int64(mixed(2)), int64(mixed(3))}} {
		signs := plainRow(l)
		all := strings.Join(signs, "")
		for end := range len(all) {
			c, r := New(), readerOf(all[:end])
			at := 0
			for i, v := range l {
				if at+len(signs[i]) > end {
					break
				}
				wantGet(t, c, r, v, len(signs[i]))
				at += len(signs[i])
			}
			wantNone(t, c, r, fmt.Sprintf("%d, %d bits", l, end))
		}
	}
}

// wantAgain reads a row that was written, by another coder, and none behind it.
func wantAgain(t *testing.T, l []int64) {
	t.Helper()
	w := written(l)
	c, r := New(), bits.NewReader(w.Text(), w.Len())
	for i, v := range l {
		if u, ok := c.Get(r); u != v || !ok {
			t.Fatalf("time %d of %d: %d, %v; want %d", i, len(l), u, ok, v)
		}
	}
	if r.Left() != 0 {
		t.Errorf("%d times from %.5d on: left %d", len(l), l[:min(len(l), 5)], r.Left())
	}
	wantNone(t, c, r, "behind the last one")
}

// Promise 8.2: what is written by one coder is read by another one.
func TestReadAgain(t *testing.T) {
	for _, l := range rows() {
		wantAgain(t, l)
	}
	changes := edgeChanges()
	for i, c := range changes {
		for _, d := range changes {
			wantAgain(t, rowOf(int64(mixed(i)), c, d, 0, c))
		}
	}
}

// Promise 8.2: a row that is longer than any limit, too (R6).
func TestReadMuch(t *testing.T) {
	const count = 200000
	l := make([]int64, count)
	for i := range l {
		l[i] = int64(i)*1000 + int64(mixed(i)>>(mixed(i+count)%64))
	}
	wantAgain(t, l)
}

// Promise 8.2: any bits, as far as they are a row, are written again as they were.
func TestWriteAgain(t *testing.T) {
	times := 0
	for i := range 300 {
		var b strings.Builder
		for j := range 20 {
			fmt.Fprintf(&b, "%064b", mixed(i*20+j)&(mixed(i*20+j+9000)|mixed(i*20+j+18000)))
		}
		all := b.String()
		c, d, r, w := New(), New(), readerOf(all), bits.NewWriter()
		for read := 0; ; read = len(all) - r.Left() {
			if again := signsOf(w); again != all[:read] {
				t.Fatalf("%s was read, and written again as %s", all[:read], again)
			}
			v, ok := c.Get(r)
			if !ok {
				break
			}
			d.Put(w, v)
			times++
		}
	}
	if times < 1000 {
		t.Errorf("%d times alone were read", times)
	}
}

// Promise 8.2: times at equal distances cost a bit each, from the third one on, whatever the distance is, and where they wrap round.
func TestEqualDistances(t *testing.T) {
	const count = 100
	firsts := []int64{0, 100, -1, math.MaxInt64, math.MinInt64, 1_700_000_000_000}
	for _, distance := range edgeChanges() {
		for _, first := range firsts {
			c, w := New(), bits.NewWriter()
			at := first
			c.Put(w, at)
			at = plainSum(at, distance)
			c.Put(w, at)
			two := w.Len()
			if two != 64+len(plainChange(distance)) {
				t.Errorf("%d and %d behind it: %d bits", first, distance, two)
			}
			for i := range count {
				at = plainSum(at, distance)
				c.Put(w, at)
				if w.Len() != two+i+1 {
					t.Fatalf("%d, and each further one by %d: %d times in %d bits; want %d", first, distance, i+3, w.Len(), two+i+1)
				}
			}
			if all := signsOf(w); all[two:] != strings.Repeat("0", count) {
				t.Errorf("%d, and each further one by %d: %s from the third one on", first, distance, all[two:])
			}
		}
	}
}

// Promise 8.2: where distances are equal again, behind one that is not, it is a bit each from then on.
func TestEqualAgain(t *testing.T) {
	for _, c := range edgeChanges() {
		l := rowOf(7, 60, 0, 0, c, 0, 0, 0)
		want := 64 + 9 + 2 + len(plainChange(c)) + 3
		if n := written(l).Len(); n != want {
			t.Errorf("%d: %d bits, want %d", l, n, want)
		}
	}
}

// FuzzRow: any bytes as bits, read against another way and written again; and as a row of changes, written and read again.
func FuzzRow(f *testing.F) {
	f.Add(written([]int64{100, 160, 220}).Text(), 74)
	f.Add(written(rowOf(5, 64, 65, -255, 257, 3000, 0, math.MinInt64)).Text(), 1000)
	f.Add("\x00\x01\x02\x03\x04\x05\x06\x07\xff\xff", 70)
	f.Fuzz(func(t *testing.T, s string, end int) {
		end = max(0, min(end, 8*len(s)))
		signs := signsOf(writerOfBytes(s))[:end]
		c, d, r, w := New(), New(), bits.NewReader(s, end), bits.NewWriter()
		var p plainCoder
		at := 0
		for {
			v, size, next, ok := p.get(signs[at:])
			if !ok {
				break
			}
			wantGet(t, c, r, v, size)
			d.Put(w, v)
			at, p = at+size, next
		}
		wantNone(t, c, r, signs)
		if again := signsOf(w); again != signs[:at] {
			t.Errorf("%s was read, and written again as %s", signs[:at], again)
		}
		var changes []int64
		for i, b := range []byte(s) {
			changes = append(changes, int64(int8(b))<<(mixed(i)%64)>>(mixed(i+int(b))%64))
		}
		l := rowOf(int64(end), changes...)
		if all := strings.Join(plainRow(l), ""); signsOf(written(l)) != all {
			t.Errorf("%d: other bits than %s", l, all)
		}
		wantAgain(t, l)
	})
}

// writerOfBytes is a writer of a text's bits.
func writerOfBytes(s string) *bits.Writer {
	w := bits.NewWriter()
	for _, c := range []byte(s) {
		w.Put(uint64(c), 8)
	}
	return w
}

// A row is written by one coder, and read again by another one.
func Example() {
	c, w := New(), bits.NewWriter()
	for _, v := range []int64{100, 160, 220} {
		c.Put(w, v)
		fmt.Println(w.Len(), "bits")
	}
	fmt.Printf("%x\n", w.Text())
	d, r := New(), bits.NewReader(w.Text(), w.Len())
	for range 4 {
		fmt.Println(d.Get(r))
	}
	// Output:
	// 64 bits
	// 73 bits
	// 74 bits
	// 0000000000000064bd80
	// 100 true
	// 160 true
	// 220 true
	// 0 false
}
