package frame

import (
	"encoding/binary"
	"fmt"
	"hash/crc32"
	"math"
	"slices"
	"strings"
	"testing"

	"barograph/api"
)

// plainSum is the four bytes of a text's check sum, by the library's way.
func plainSum(s string) string {
	c := crc32.Checksum([]byte(s), crc32.MakeTable(crc32.Castagnoli))
	return string(binary.BigEndian.AppendUint32(nil, c))
}

// plainNum is a number's bytes, by another way than digits'.
func plainNum(n int) string {
	digits := strings.TrimLeft(string(binary.BigEndian.AppendUint64(nil, uint64(n))), "\x00")
	return string(rune(len(digits))) + digits
}

// summed is bytes with their check sum behind them.
func summed(s string) string { return s + plainSum(s) }

// plainPut is a frame's bytes by another way than Put's; it is asked for frames that are right alone.
func plainPut(f Frame) string {
	return summed(string([]byte{byte(f.Kind)}) + plainNum(len(f.Data)) + f.Data)
}

// plainGet is Get's answer by another way: each place of the bytes is held against what may stand there.
func plainGet(s string) (Frame, int, api.Errno) {
	b := []byte(s)
	switch {
	case len(b) == 0:
		return Frame{}, 0, api.ErrShort
	case b[0] == 0:
		return Frame{}, 0, api.ErrKind
	case len(b) == 1:
		return Frame{}, 0, api.ErrShort
	case b[1] > 8:
		return Frame{}, 0, api.ErrRange
	}
	behind := 2 + int(b[1])
	switch {
	case len(b) < behind:
		return Frame{}, 0, api.ErrShort
	case b[1] > 0 && b[2] == 0:
		return Frame{}, 0, api.ErrField
	case b[1] > 3:
		return Frame{}, 0, api.ErrLong
	}
	count := 0
	for _, digit := range b[2:behind] {
		count = count*256 + int(digit)
	}
	switch {
	case count > 65536:
		return Frame{}, 0, api.ErrLong
	case len(b) < behind+count+4:
		return Frame{}, 0, api.ErrShort
	case summed(s[:behind+count]) != s[:behind+count+4]:
		return Frame{}, 0, api.ErrSum
	}
	return Frame{int(b[0]), s[behind : behind+count]}, behind + count + 4, api.OK
}

// plainScan is Scan's answer by another way: what is left is scanned again, behind each frame.
func plainScan(s string) ([]Frame, int, api.Errno) {
	if s == "" {
		return nil, 0, api.OK
	}
	f, n, e := plainGet(s)
	if e != api.OK {
		return nil, 0, e
	}
	l, m, e := plainScan(s[n:])
	return append([]Frame{f}, l...), n + m, e
}

// manyData is data that looks like any, like noughts, runes whole and broken, and frames, and whose lengths need none to three digits, up to the limit.
func manyData() []string {
	l := []string{"", "a", "ab", "123456789", "\x00", "\x00\x00\x00\x00", "\xff", "\xff\xff\xff\xff\xff", "\x80", "β", "\xce", "\xff\xfe",
		plainPut(Frame{1, "a"}), plainPut(Frame{255, ""}) + plainPut(Frame{2, "b"})}
	for _, n := range []int{7, 8, 9, 254, 255, 256, 257, api.MaxText - 1, api.MaxText} {
		l = append(l, strings.Repeat("x", n), strings.Repeat("\x00", n), strings.Repeat("\xfe\x01", n)[:n])
	}
	return l
}

// manyFrames is frames with each such data, and with kinds at the edges and between.
func manyFrames() []Frame {
	var l []Frame
	for _, data := range manyData() {
		for _, kind := range []int{1, 2, 127, 128, 255} {
			l = append(l, Frame{kind, data})
		}
	}
	return l
}

func wantPut(t *testing.T, f Frame, s string, e api.Errno) {
	t.Helper()
	if got, g := Put(f); got != s || g != e {
		t.Errorf("Put(%d, %.20x of %d bytes): %.40x of %d bytes, error %d; want %.40x of %d bytes, error %d",
			f.Kind, f.Data, len(f.Data), got, len(got), g, s, len(s), e)
	}
}

func wantGet(t *testing.T, s string, f Frame, n int, e api.Errno) {
	t.Helper()
	if g, m, h := Get(s); g != f || m != n || h != e {
		t.Errorf("Get(%.40x of %d bytes): %d, %.20x of %d bytes, %d, error %d; want %d, %.20x of %d bytes, %d, error %d",
			s, len(s), g.Kind, g.Data, len(g.Data), m, h, f.Kind, f.Data, len(f.Data), n, e)
	}
}

func wantScan(t *testing.T, s string, l []Frame, n int, e api.Errno) {
	t.Helper()
	if k, m, h := Scan(s); !slices.Equal(k, l) || m != n || h != e {
		t.Errorf("Scan(%.60x of %d bytes): %d frames, %d, error %d; want %d frames, %d, error %d", s, len(s), len(k), m, h, len(l), n, e)
	}
}

// Promise 3.1: frames' bytes, written out; the first one is the chapter's example.
func TestPutWritten(t *testing.T) {
	wantPut(t, Frame{1, "a"}, "\x01\x01\x01a"+plainSum("\x01\x01\x01a"), api.OK)
	wantPut(t, Frame{1, ""}, "\x01\x00"+plainSum("\x01\x00"), api.OK)
	wantPut(t, Frame{255, "\x00"}, "\xff\x01\x01\x00"+plainSum("\xff\x01\x01\x00"), api.OK)
	wantPut(t, Frame{128, "ab"}, "\x80\x01\x02ab"+plainSum("\x80\x01\x02ab"), api.OK)
	// With the sums written out: both ways to reckon them might have one fault.
	wantPut(t, Frame{1, "a"}, "\x01\x01\x01a\xb0\x6c\xfb\x17", api.OK)
	wantPut(t, Frame{2, ""}, "\x02\x00\xd6\x24\x47\x3c", api.OK)
}

// Promise 3.1: each kind there is, and all data, against another way to write and to read it.
func TestPutIsPlainPut(t *testing.T) {
	for kind := 1; kind <= 255; kind++ {
		f := Frame{kind, "data"}
		wantPut(t, f, plainPut(f), api.OK)
		wantGet(t, plainPut(f), f, len(plainPut(f)), api.OK)
	}
	for _, f := range manyFrames() {
		wantPut(t, f, plainPut(f), api.OK)
		wantGet(t, plainPut(f), f, len(plainPut(f)), api.OK)
	}
}

// Promise 3.1: a kind that is none, or is one only if it were cut down to a byte; it is told ahead of data that is too long.
func TestPutKind(t *testing.T) {
	for _, kind := range []int{0, -1, -2, -128, -255, -256, 256, 257, 511, 512, 1 << 32, 1<<32 + 1, math.MinInt, math.MinInt + 1, math.MaxInt} {
		for _, n := range []int{0, 1, api.MaxText, api.MaxText + 1, 1 << 20} {
			wantPut(t, Frame{kind, strings.Repeat("x", n)}, "", api.ErrKind)
		}
	}
}

// Promise 3.1: data may have 2^16 bytes, and no more.
func TestPutLong(t *testing.T) {
	for _, kind := range []int{1, 9, 255} {
		most := Frame{kind, strings.Repeat("x", 65536)}
		wantPut(t, most, plainPut(most), api.OK)
		for _, n := range []int{65537, 65538, 1<<17 + 1, 1 << 20} {
			wantPut(t, Frame{kind, strings.Repeat("x", n)}, "", api.ErrLong)
		}
	}
}

// getErrors is bytes with no frame at their front. The sums behind them are right, where an error is told ahead of ErrSum.
func getErrors() map[string]api.Errno {
	long := strings.Repeat("x", api.MaxText+1)
	return map[string]api.Errno{
		"":                                    api.ErrShort,
		"\x00":                                api.ErrKind,
		"\x00\x09":                            api.ErrKind,
		"\x00\x01":                            api.ErrKind,
		summed("\x00\x00"):                    api.ErrKind,
		summed("\x00\x01\x01a"):               api.ErrKind,
		"\x00\x03\x01\x00\x01":                api.ErrKind,
		"\x01":                                api.ErrShort,
		"\xff":                                api.ErrShort,
		"\x01\x09":                            api.ErrRange,
		summed("\x01\x09123456789"):           api.ErrRange,
		"\x01\xff":                            api.ErrRange,
		"\x01\x01":                            api.ErrShort,
		"\x01\x02\x01":                        api.ErrShort,
		"\x01\x02\x00":                        api.ErrShort,
		"\x01\x01\x00":                        api.ErrField,
		summed("\x01\x01\x00"):                api.ErrField,
		summed("\x01\x02\x00\x01a"):           api.ErrField,
		"\x01\x03\x01\x00\x01":                api.ErrLong,
		summed("\x01\x03\x01\x00\x01"):        api.ErrLong,
		summed("\x01\x03\x01\x00\x01" + long): api.ErrLong,
		"\x01\x03\xff\xff\xff":                api.ErrLong,
		"\x01\x04\x01\x00\x00\x00":            api.ErrLong,
		"\x01\x08\xff\xff\xff\xff\xff\xff\xff\xff":          api.ErrLong,
		"\x01\x08\x7f\xff\xff\xff\xff\xff\xff\xff":          api.ErrLong,
		"\x01\x03\x01\x00\x00":                              api.ErrShort,
		"\x01\x03\x01\x00\x00" + long[:api.MaxText-1]:       api.ErrShort,
		"\x01\x03\x01\x00\x00" + long[:api.MaxText]:         api.ErrShort,
		"\x01\x03\x01\x00\x00" + long[:api.MaxText+1]:       api.ErrShort,
		"\x01\x03\x01\x00\x00" + long[:api.MaxText] + "xyz": api.ErrShort,
		"\x01\x01\x02a":                             api.ErrShort,
		"\x01\x01\x01a":                             api.ErrShort,
		"\x01\x01\x01a\xb0":                         api.ErrShort,
		"\x01\x01\x01a\xb0\x6c\xfb":                 api.ErrShort,
		"\x01\x01\x01a\x00\x00\x00":                 api.ErrShort,
		"\x01\x00":                                  api.ErrShort,
		"\x01\x00\x00\x00\x00":                      api.ErrShort,
		"\x01\x01\x01a\xb0\x6c\xfb\x16":             api.ErrSum,
		"\x01\x01\x01a\x17\xfb\x6c\xb0":             api.ErrSum,
		"\x01\x01\x01a\x00\x00\x00\x00":             api.ErrSum,
		"\x01\x00\x00\x00\x00\x00":                  api.ErrSum,
		"\x01\x01\x01a" + plainSum("a"):             api.ErrSum,
		"\x01\x01\x01a" + plainSum("\x01\x01a"):     api.ErrSum,
		"\x01\x01\x01a" + plainSum("\x01a"):         api.ErrSum,
		"\x02\x01\x01a" + plainSum("\x01\x01\x01a"): api.ErrSum,
	}
}

// Promise 3.1: the errors, in their order, and nothing beside them (R2).
func TestGetErrors(t *testing.T) {
	for s, e := range getErrors() {
		wantGet(t, s, Frame{}, 0, e)
	}
}

// Promise 3.1: each first byte, with each second one, and a few bytes behind them that may be digits, data or a sum.
func TestGetIsPlainGet(t *testing.T) {
	for kind := range 256 {
		for count := range 256 {
			head := string([]byte{byte(kind), byte(count)})
			for _, s := range []string{head[:1], head, head + "\x00", head + "\x01", head + "\x01a", head + "\x00\x00\x00\x00",
				head + "\x01\x01\x01\x01\x01\x01\x01\x01\x01", summed(head), summed(head + "\x01a"), summed(head + "\x00"), summed(head+"\x01a") + "b"} {
				f, n, e := plainGet(s)
				wantGet(t, s, f, n, e)
			}
		}
	}
}

// Promise 3.1: only what stands in front is got.
func TestGetWithMoreBehind(t *testing.T) {
	for _, f := range manyFrames() {
		s := plainPut(f)
		for _, more := range []string{"\x00", "\x01", "\xff\xff\xff\xff", "ab", s[len(s)-4:], plainPut(Frame{3, "c"})} {
			wantGet(t, s+more, f, len(s), api.OK)
		}
	}
}

// flipped is bytes of which one bit is changed.
func flipped(s string, bit int) string {
	b := []byte(s)
	b[bit/8] ^= 1 << (bit % 8)
	return string(b)
}

// Promise 3.1, and the chapter's example: a bit that is changed, in the kind, in the data, in the sum. (Where the length is changed, other errors may be told: plainGet says which.)
func TestOneBitChanged(t *testing.T) {
	for _, f := range []Frame{{1, ""}, {1, "a"}, {2, "\x00"}, {128, "123456789"}, {255, strings.Repeat("\xff", 300)}} {
		s := plainPut(f)
		length := 1 + len(plainNum(len(f.Data)))
		for bit := range len(s) * 8 {
			b := flipped(s, bit)
			_, _, e := plainGet(b)
			if e == api.OK || e != api.ErrSum && bit >= 8*length || bit < 8 && b[0] != 0 && e != api.ErrSum {
				t.Fatalf("%x, bit %d: error %d", s, bit, e)
			}
			wantGet(t, b, Frame{}, 0, e)
			wantScan(t, plainPut(Frame{9, "k"})+b, []Frame{{9, "k"}}, 8, e)
		}
	}
}

// all is frames' bytes, one behind the other, and at what places one ends.
func all(l []Frame) (string, []int) {
	var s strings.Builder
	var ends []int
	for _, f := range l {
		s.WriteString(plainPut(f))
		ends = append(ends, s.Len())
	}
	return s.String(), ends
}

// Promise 3.2: of nothing there are no frames, and nothing is wrong.
func TestScanNothing(t *testing.T) {
	wantScan(t, "", nil, 0, api.OK)
}

// Promise 3.2: each of Get's errors stops it; the frames ahead are told with the error, those behind are not.
func TestScanErrors(t *testing.T) {
	for _, l := range [][]Frame{nil, {{1, "a"}}, {{1, "a"}, {255, ""}, {7, "\x00\x00"}, {1, "a"}}} {
		s, _ := all(l)
		for bad, e := range getErrors() {
			if bad == "" {
				wantScan(t, s, l, len(s), api.OK)
				continue
			}
			wantScan(t, s+bad, l, len(s), e)
		}
		// A sum that is wrong hides what is behind it, be it ever so whole.
		wantScan(t, s+"\x01\x01\x01a\x00\x00\x00\x00"+plainPut(Frame{2, "b"}), l, len(s), api.ErrSum)
		wantScan(t, s+"\x00"+plainPut(Frame{2, "b"}), l, len(s), api.ErrKind)
	}
}

// Promise 3.2: what is handed out is new memory (R4), and two calls' lists are the same.
func TestScanIsNew(t *testing.T) {
	s, _ := all([]Frame{{1, "a"}, {2, "b"}, {3, "c"}})
	l, _, _ := Scan(s)
	l[1] = Frame{9, "other"}
	wantScan(t, s, []Frame{{1, "a"}, {2, "b"}, {3, "c"}}, len(s), api.OK)
}

// Promise 3.2: many frames are scanned as few are; there is no limit on how many.
func TestScanMany(t *testing.T) {
	var l []Frame
	for i := range 100000 {
		l = append(l, Frame{1 + i%255, strings.Repeat("z", i%5)})
	}
	s, _ := all(l)
	wantScan(t, s, l, len(s), api.OK)
	wantScan(t, s+"\x01", l, len(s), api.ErrShort)
}

// Promise 3.3: frames of every kind and length, written by Put one behind the other, are scanned as they were.
func TestScannedAsWritten(t *testing.T) {
	l := manyFrames()
	var s strings.Builder
	for _, f := range l {
		b, e := Put(f)
		if e != api.OK {
			t.Fatalf("Put(%d, %d bytes): error %d", f.Kind, len(f.Data), e)
		}
		s.WriteString(b)
	}
	wantScan(t, s.String(), l, s.Len(), api.OK)
}

// Promise 3.3: cut off anywhere, the frames that are whole are scanned, and the rest is ErrShort.
func TestScannedCutOff(t *testing.T) {
	for _, l := range [][]Frame{
		{{1, ""}},
		{{1, "a"}, {2, ""}, {255, "\x00\x00\x00\x00\x00\x00\x00\x00"}},
		{{1, "a"}, {1, "a"}, {128, strings.Repeat("y", 255)}, {3, strings.Repeat("\xff", 256)}, {4, plainPut(Frame{1, "a"})}, {5, ""}},
	} {
		s, ends := all(l)
		for cut := range len(s) + 1 {
			count, end := 0, 0
			for count < len(l) && ends[count] <= cut {
				end = ends[count]
				count++
			}
			if cut == end {
				wantScan(t, s[:cut], l[:count], end, api.OK)
				continue
			}
			wantScan(t, s[:cut], l[:count], end, api.ErrShort)
			wantGet(t, s[end:cut], Frame{}, 0, api.ErrShort)
		}
	}
}

// Promise 3.3: cut off at the edges of the longest frame there is.
func TestLongestCutOff(t *testing.T) {
	l := []Frame{{1, "a"}, {255, strings.Repeat("x", api.MaxText)}}
	s, ends := all(l)
	wantScan(t, s, l, ends[1], api.OK)
	for _, left := range []int{1, 3, 4, 5, 6, api.MaxText, api.MaxText + 3, api.MaxText + 4, ends[1] - ends[0] - 1} {
		wantScan(t, s[:len(s)-left], l[:1], ends[0], api.ErrShort)
	}
	wantScan(t, s[:ends[0]], l[:1], ends[0], api.OK)
}

// asPlain tells whether any bytes are got and scanned as by the other way, and what is got is written as it was.
func asPlain(t *testing.T, s string) {
	t.Helper()
	f, n, e := plainGet(s)
	wantGet(t, s, f, n, e)
	if e == api.OK {
		wantPut(t, f, s[:n], api.OK)
	}
	l, n, e := plainScan(s)
	wantScan(t, s, l, n, e)
}

// Promises 3.1 and 3.2: all texts of up to six bytes that are made of a few, with a right sum behind them and without.
func TestFewBytes(t *testing.T) {
	few := "\x00\x01\x02\x09\xff"
	texts := []string{""}
	for range 6 {
		var longer []string
		for _, s := range texts {
			for i := range len(few) {
				longer = append(longer, s+few[i:i+1])
			}
		}
		for _, s := range longer {
			asPlain(t, s)
			asPlain(t, summed(s))
		}
		texts = longer
	}
}

// Promises 3.1 to 3.3, of any bytes: none makes a panic (R1). The sum put behind them brings more of them past the sum.
func FuzzScan(f *testing.F) {
	for s := range getErrors() {
		f.Add(s)
	}
	s, _ := all([]Frame{{1, "a"}, {2, ""}, {255, "\x00\x00"}})
	f.Add(s)
	f.Fuzz(func(t *testing.T, s string) {
		asPlain(t, s)
		asPlain(t, summed(s))
		asPlain(t, summed(s)+s)
	})
}

// Frames are written one behind the other; what is cut off is told, with those that are whole.
func Example() {
	a, _ := Put(Frame{Kind: 1, Data: "a"})
	b, _ := Put(Frame{Kind: 2, Data: "bc"})
	fmt.Printf("% x\n", a)
	f, n, e := Get(a + b)
	fmt.Println(f.Kind, f.Data, n, e == api.OK)
	l, n, e := Scan(a + b[:5])
	fmt.Println(len(l), l[0].Data, n, e)
	// Output:
	// 01 01 01 61 b0 6c fb 17
	// 1 a 8 true
	// 1 a 8 error 1
}
