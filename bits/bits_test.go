package bits

import (
	"fmt"
	"math"
	"math/big"
	"strings"
	"testing"
)

// number is a number, and with how many bits it is written.
type number struct {
	v uint64
	n int
}

// plainNumber is the signs 0 and 1 of a number's lowest bits by another way than Put's: the library writes the whole of it, and what is too much in front is cut off.
func plainNumber(v uint64, n int) string {
	if n < 1 {
		return ""
	}
	all := fmt.Sprintf("%064b", v)
	return all[len(all)-min(n, 64):]
}

// plainBits is the signs 0 and 1 of numbers, one behind the other.
func plainBits(l []number) string {
	var b strings.Builder
	for _, x := range l {
		b.WriteString(plainNumber(x.v, x.n))
	}
	return b.String()
}

// plainText is the text of signs 0 and 1, by the library's numbers of any length.
func plainText(signs string) string {
	if signs == "" {
		return ""
	}
	for len(signs)%8 != 0 {
		signs += "0"
	}
	whole, _ := new(big.Int).SetString(signs, 2)
	return string(whole.FillBytes(make([]byte, len(signs)/8)))
}

// plainSigns is the signs 0 and 1 of all bits of a text.
func plainSigns(s string) string {
	var b strings.Builder
	for _, c := range []byte(s) {
		fmt.Fprintf(&b, "%08b", c)
	}
	return b.String()
}

// plainReader reads signs 0 and 1: the reader by another way.
type plainReader struct{ signs string }

// newPlainReader is NewReader by another way.
func newPlainReader(s string, n int) *plainReader {
	signs := plainSigns(s)
	return &plainReader{signs[:max(0, min(n, len(signs)))]}
}

// get is Get by another way.
func (r *plainReader) get(n int) (uint64, bool) {
	if n < 0 || n > 64 || n > len(r.signs) {
		return 0, false
	}
	v, _ := new(big.Int).SetString("0"+r.signs[:n], 2)
	r.signs = r.signs[n:]
	return v.Uint64(), true
}

// mixed is a number that looks like any, the same one for the same i.
func mixed(i int) uint64 {
	x := (uint64(i) + 1) * 0x9E3779B97F4A7C15
	x = (x ^ x>>30) * 0xBF58476D1CE4E5B9
	x = (x ^ x>>27) * 0x94D049BB133111EB
	return x ^ x>>31
}

// mixedText is a text of n bytes that look like any.
func mixedText(n int) string {
	b := make([]byte, n)
	for i := range b {
		b[i] = byte(mixed(i))
	}
	return string(b)
}

// manyValues is ordinary numbers, those at the edges, and each bit alone, set and not set.
func manyValues() []uint64 {
	l := []uint64{0, 1, 2, 5, 0xA5, 0x0102030405060708, 0x8000000000000001, 0xAAAAAAAAAAAAAAAA, 0x5555555555555555, math.MaxInt64, math.MaxUint64 - 1, math.MaxUint64}
	for i := range 64 {
		l = append(l, 1<<i, ^(uint64(1) << i), mixed(i))
	}
	return l
}

// noCounts is counts of bits below 1.
var noCounts = []int{0, -1, -2, -7, -8, -63, -64, -65, -1 << 31, -1 << 32, -1<<32 + 1, math.MinInt + 1, math.MinInt}

// greatCounts is counts of bits above 64.
var greatCounts = []int{65, 66, 71, 72, 127, 128, 129, 256, 1 << 31, 1 << 32, 1<<32 + 1, math.MaxInt - 1, math.MaxInt}

// rows is numbers in a row: of one count each, of all counts, with counts that are none or too great between, and many.
func rows() [][]number {
	l := [][]number{nil, {{5, 3}, {1, 2}}, {{0, 1}}, {{1, 1}}, {{0, 64}}, {{math.MaxUint64, 64}}, {{7, 0}}, {{7, -1}, {7, 2}, {7, math.MinInt}}, {{9, 65}}, {{9, math.MaxInt}, {1, 1}}}
	var rising, falling, any []number
	for n := range 67 {
		l = append(l, []number{{mixed(n), n}, {mixed(n + 100), n}, {mixed(n + 200), n}})
		rising = append(rising, number{mixed(n), n})
		falling = append(falling, number{mixed(n), 66 - n})
	}
	for i := range 2000 {
		any = append(any, number{mixed(i), int(mixed(i+5000)%70) - 3})
	}
	return append(l, rising, falling, any)
}

// written is a writer to which numbers were put.
func written(l []number) *Writer {
	w := NewWriter()
	for _, x := range l {
		w.Put(x.v, x.n)
	}
	return w
}

func wantWritten(t *testing.T, w *Writer, signs string) {
	t.Helper()
	if s := w.Text(); w.Len() != len(signs) || s != plainText(signs) {
		t.Errorf("%d bits, text %.60x of %d bytes; want %d bits, %.60x", w.Len(), s, len(s), len(signs), plainText(signs))
	}
}

func wantGet(t *testing.T, r *Reader, n int, v uint64, ok bool, left int) {
	t.Helper()
	if u, is := r.Get(n); u != v || is != ok || r.Left() != left {
		t.Errorf("Get(%d): %X, %v, left %d; want %X, %v, left %d", n, u, is, r.Left(), v, ok, left)
	}
}

// Promise 6.1: at first nothing was written, and the text of nothing has no byte.
func TestNewWriter(t *testing.T) {
	w := NewWriter()
	if w == nil || w.Len() != 0 || w.Text() != "" {
		t.Errorf("a new writer: %v", w)
	}
}

// Promise 6.1: texts, written out; the first one is the chapter's example.
func TestPutWritten(t *testing.T) {
	for _, x := range []struct {
		l    []number
		bits int
		text string
	}{
		{[]number{{5, 3}, {1, 2}}, 5, "\xa8"},
		{[]number{{1, 1}}, 1, "\x80"},
		{[]number{{0, 1}}, 1, "\x00"},
		{[]number{{1, 8}}, 8, "\x01"},
		{[]number{{1, 9}}, 9, "\x00\x80"},
		{[]number{{0x80, 8}}, 8, "\x80"},
		{[]number{{0, 8}, {0, 1}}, 9, "\x00\x00"},
		{[]number{{0xFF, 7}, {0, 1}}, 8, "\xfe"},
		{[]number{{0x0102, 16}}, 16, "\x01\x02"},
		{[]number{{1, 1}, {0, 64}, {1, 1}}, 66, "\x80\x00\x00\x00\x00\x00\x00\x00\x40"},
		{[]number{{0x0102030405060708, 64}}, 64, "\x01\x02\x03\x04\x05\x06\x07\x08"},
		{[]number{{0x0102030405060708, 12}}, 12, "\x70\x80"},
		{[]number{{0x8000000000000001, 64}}, 64, "\x80\x00\x00\x00\x00\x00\x00\x01"},
		{[]number{{2, 2}, {math.MaxUint64, 0}, {math.MaxUint64, -1}, {1, 2}}, 4, "\x90"},
		{[]number{{1, 4}, {0xF0F1F2F3F4F5F6F7, 65}}, 68, "\x1f\x0f\x1f\x2f\x3f\x4f\x5f\x6f\x70"},
	} {
		if w := written(x.l); w.Len() != x.bits || w.Text() != x.text {
			t.Errorf("%v: %d bits, %x; want %d bits, %x", x.l, w.Len(), w.Text(), x.bits, x.text)
		}
	}
}

// Promise 6.1: each count of bits, behind each place in a byte, of many numbers, against another way; a bit behind it tells where it ends.
func TestPutIsPlain(t *testing.T) {
	for _, v := range manyValues() {
		for n := 1; n <= 64; n++ {
			for ahead := range 9 {
				l := []number{{math.MaxUint64, ahead}, {v, n}}
				wantWritten(t, written(l), plainBits(l))
				l = append(l, number{1, 1})
				wantWritten(t, written(l), plainBits(l))
			}
		}
	}
	for _, l := range rows() {
		wantWritten(t, written(l), plainBits(l))
	}
}

// Promise 6.1: with a count below 1 nothing is written, whatever was written ahead.
func TestPutNothing(t *testing.T) {
	for ahead := range 70 {
		for _, v := range []uint64{0, 1, math.MaxUint64} {
			w := written([]number{{0xABCDEF0123456789, ahead}})
			signs := plainNumber(0xABCDEF0123456789, ahead)
			for _, n := range noCounts {
				w.Put(v, n)
				wantWritten(t, w, signs)
			}
			w.Put(v, 1)
			wantWritten(t, w, signs+plainNumber(v, 1))
		}
	}
}

// Promise 6.1: a count above 64 is as 64.
func TestPutTooMany(t *testing.T) {
	for _, n := range greatCounts {
		for _, v := range manyValues() {
			for ahead := range 9 {
				w, x := written([]number{{5, ahead}, {v, n}, {2, 2}}), written([]number{{5, ahead}, {v, 64}, {2, 2}})
				if w.Len() != ahead+66 || w.Len() != x.Len() || w.Text() != x.Text() {
					t.Errorf("%X with %d bits behind %d: %d bits, %x; with 64 bits %x", v, n, ahead, w.Len(), w.Text(), x.Text())
				}
			}
		}
	}
}

// Promise 6.1: Len and Text may be asked for behind each bit; that changes nothing, and a text that was handed out stays as it is.
func TestTextBetween(t *testing.T) {
	const most = 300
	w := NewWriter()
	signs := ""
	var texts []string
	for i := range most {
		texts = append(texts, w.Text())
		wantWritten(t, w, signs)
		wantWritten(t, w, signs)
		w.Put(mixed(i), 1)
		signs += plainNumber(mixed(i), 1)
	}
	for i, s := range texts {
		if s != plainText(signs[:i]) {
			t.Errorf("the text of %d bits became %x", i, s)
		}
	}
}

// Promise 6.1: what is written to one writer does not stand in another one (R4).
func TestWritersApart(t *testing.T) {
	a, b := NewWriter(), NewWriter()
	var l, m []number
	for i := range 200 {
		a.Put(mixed(i), i%66)
		l = append(l, number{mixed(i), i % 66})
		wantWritten(t, b, plainBits(m))
		b.Put(mixed(i+1000), i%7)
		m = append(m, number{mixed(i + 1000), i % 7})
		wantWritten(t, a, plainBits(l))
	}
}

// Promise 6.1: what is longer than any limit is written too (R6).
func TestPutMuch(t *testing.T) {
	const count = 100000
	w := NewWriter()
	for range count {
		w.Put(0x0123456789ABCDEF, 63)
	}
	s := w.Text()
	if w.Len() != 63*count || len(s) != (63*count+7)/8 {
		t.Fatalf("%d bits, %d bytes", w.Len(), len(s))
	}
	r := NewReader(s, w.Len())
	for i := range count {
		if v, ok := r.Get(63); v != 0x0123456789ABCDEF || !ok {
			t.Fatalf("number %d: %X, %v", i, v, ok)
		}
	}
	wantGet(t, r, 1, 0, false, 0)
}

// Promise 6.2: what is got, written out; the first one is the chapter's example.
func TestGetWritten(t *testing.T) {
	r := NewReader("\xa8", 5)
	wantGet(t, r, 3, 5, true, 2)
	wantGet(t, r, 2, 1, true, 0)
	wantGet(t, r, 1, 0, false, 0)

	r = NewReader("\x01\x02\x03\x04\x05\x06\x07\x08\x90", 68)
	wantGet(t, r, 64, 0x0102030405060708, true, 4)
	wantGet(t, r, 4, 9, true, 0)

	r = NewReader("\x70\x80", 16)
	wantGet(t, r, 1, 0, true, 15)
	wantGet(t, r, 11, 0x708, true, 4)
	wantGet(t, r, 5, 0, false, 4)
	wantGet(t, r, 4, 0, true, 0)

	r = NewReader("\xff\xff\xff\xff\xff\xff\xff\xff\xff", 72)
	wantGet(t, r, 5, 31, true, 67)
	wantGet(t, r, 64, math.MaxUint64, true, 3)
	wantGet(t, r, 3, 7, true, 0)
}

// Promise 6.2: how many bits are read: below 0 none, more than there are all.
func TestNewReader(t *testing.T) {
	for _, size := range []int{0, 1, 2, 7, 8, 9, 16, 40} {
		s := mixedText(size)
		for n := -20; n <= 8*size+20; n++ {
			if left := NewReader(s, n).Left(); left != max(0, min(n, 8*size)) {
				t.Errorf("%d bits of %d bytes: left %d", n, size, left)
			}
		}
		for _, n := range noCounts {
			r := NewReader(s, n)
			wantGet(t, r, 0, 0, true, 0)
			wantGet(t, r, 1, 0, false, 0)
		}
		for _, n := range append([]int{8*size + 1, 8*size + 64}, greatCounts...) {
			if n < 8*size {
				continue
			}
			r, p := NewReader(s, n), newPlainReader(s, 8*size)
			for range 8 * size {
				v, ok := p.get(1)
				wantGet(t, r, 1, v, ok, len(p.signs))
			}
			wantGet(t, r, 1, 0, false, 0)
		}
	}
}

// Promise 6.2: each count of bits, behind each place in a byte, of texts that end at each place, against another way.
func TestGetIsPlain(t *testing.T) {
	for _, s := range []string{mixedText(18), strings.Repeat("\x00", 18), strings.Repeat("\xff", 18), strings.Repeat("\x80", 18), strings.Repeat("\x01", 18)} {
		for ahead := range 17 {
			for n := range 65 {
				for _, end := range []int{0, 1, 8, 63, 64, 65, ahead, ahead + n - 1, ahead + n, ahead + n + 1, 143, 144, 145} {
					r, p := NewReader(s, end), newPlainReader(s, end)
					for _, count := range []int{ahead, n, 1, n, 0} {
						v, ok := p.get(count)
						wantGet(t, r, count, v, ok, len(p.signs))
					}
				}
			}
		}
	}
}

// Promise 6.2: where a count is wrong, or there are too few bits, nothing is read: all that is left is got behind it as if it had not been asked for.
func TestGetNothing(t *testing.T) {
	s := mixedText(12)
	counts := append([]int{65, 96, 97}, greatCounts...)
	for _, n := range noCounts {
		if n < 0 {
			counts = append(counts, n)
		}
	}
	for at := range 97 {
		r, p := NewReader(s, 96), newPlainReader(s, 96)
		for range at {
			v, ok := p.get(1)
			wantGet(t, r, 1, v, ok, len(p.signs))
		}
		left := 96 - at
		for _, n := range counts {
			wantGet(t, r, n, 0, false, left)
		}
		for n := left + 1; n <= left+70; n++ {
			wantGet(t, r, n, 0, false, left)
		}
		n := min(left, 64)
		v, _ := p.get(n)
		wantGet(t, r, n, v, true, left-n)
	}
}

// Promise 6.2: no bits are got, also where none are left.
func TestGetNoBits(t *testing.T) {
	wantGet(t, NewReader("", 0), 0, 0, true, 0)
	wantGet(t, NewReader("", math.MaxInt), 0, 0, true, 0)
	wantGet(t, NewReader("\xff", 0), 0, 0, true, 0)
	wantGet(t, NewReader("\xff", -1), 0, 0, true, 0)
	r := NewReader("\xff", 3)
	wantGet(t, r, 0, 0, true, 3)
	wantGet(t, r, 3, 7, true, 0)
	wantGet(t, r, 0, 0, true, 0)
}

// Promise 6.2: bits that the text has behind those that are read, stay unread, in the same byte and behind it.
func TestGetUpToEnd(t *testing.T) {
	s := strings.Repeat("\xff", 10)
	for n := range 65 {
		r := NewReader(s, n)
		wantGet(t, r, n+1, 0, false, n)
		all := uint64(1)<<n - 1
		wantGet(t, r, n, all, true, 0)
		wantGet(t, r, 1, 0, false, 0)
	}
}

// Promise 6.2: each reader is somewhere of its own; to read a text changes nothing for another one.
func TestReadersApart(t *testing.T) {
	s := mixedText(20)
	a, b := NewReader(s, 160), NewReader(s, 160)
	p, q := newPlainReader(s, 160), newPlainReader(s, 160)
	for i := range 60 {
		v, ok := p.get(i % 9)
		wantGet(t, a, i%9, v, ok, len(p.signs))
		v, ok = q.get(i % 5)
		wantGet(t, b, i%5, v, ok, len(q.signs))
	}
}

// wantAgain reads numbers that were written, and nothing behind them.
func wantAgain(t *testing.T, s string, l []number) {
	t.Helper()
	left := len(plainBits(l))
	r := NewReader(s, left)
	for _, x := range l {
		n := max(0, min(x.n, 64))
		low := x.v
		if n < 64 {
			low &= 1<<n - 1
		}
		left -= n
		wantGet(t, r, n, low, true, left)
	}
	wantGet(t, r, 1, 0, false, 0)
}

// Promise 6.3: rows of numbers are read again, be there bytes behind the text or not.
func TestReadAgain(t *testing.T) {
	for _, l := range rows() {
		s := written(l).Text()
		wantAgain(t, s, l)
		wantAgain(t, s+"\xff\x00\xff", l)
	}
	for _, v := range manyValues() {
		for n := range 65 {
			l := []number{{v, 3}, {v, n}, {^v, n}, {v, 5}}
			wantAgain(t, written(l).Text(), l)
		}
	}
}

// Promise 6.3: a text's bits are written again as the same text, whatever counts they are taken in.
func TestWriteAgain(t *testing.T) {
	s := mixedText(40)
	for n := 1; n <= 64; n++ {
		for _, end := range []int{0, 1, 7, 8, 9, 64, 65, 319, 320} {
			r, w := NewReader(s, end), NewWriter()
			for r.Left() > 0 {
				count := min(n, r.Left())
				v, ok := r.Get(count)
				if !ok {
					t.Fatalf("Get(%d) with %d left", count, r.Left())
				}
				w.Put(v, count)
			}
			wantWritten(t, w, plainSigns(s)[:end])
		}
	}
}

// FuzzBits: any numbers with any counts of bits, written and read again, and any bytes read by any counts, against another way.
func FuzzBits(f *testing.F) {
	f.Add("\x03\x05\x02\x01", 5)
	f.Add("\xff\x41\x00\x80\x7f", -1)
	f.Fuzz(func(t *testing.T, s string, end int) {
		var l []number
		r, p := NewReader(s, end), newPlainReader(s, end)
		for i, c := range []byte(s) {
			n := int(int8(c))
			l = append(l, number{mixed(i) + uint64(c), n})
			v, ok := p.get(n)
			wantGet(t, r, n, v, ok, len(p.signs))
		}
		w := written(l)
		wantWritten(t, w, plainBits(l))
		wantAgain(t, w.Text(), l)
	})
}

// Numbers are written with as many bits as one likes, and read again with as many.
func Example() {
	w := NewWriter()
	w.Put(5, 3)
	w.Put(1, 2)
	fmt.Printf("%x, %d bits\n", w.Text(), w.Len())
	r := NewReader(w.Text(), w.Len())
	fmt.Println(r.Get(3))
	fmt.Println(r.Get(2))
	fmt.Println(r.Get(1))
	// Output:
	// a8, 5 bits
	// 5 true
	// 1 true
	// 0 false
}
