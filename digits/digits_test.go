package digits

import (
	"encoding/binary"
	"fmt"
	"math"
	"math/big"
	"strings"
	"testing"

	"barograph/api"
)

// manyNumbers is ordinary numbers and those around each count of digits.
func manyNumbers() []uint64 {
	l := []uint64{0, 1, 2, 3, 100, 127, 128}
	for count := 1; count < 8; count++ {
		first := uint64(1) << (8 * count)
		l = append(l, first-2, first-1, first, first+1, first+2, 3*first, first*255-1, first*255)
	}
	return append(l, 1<<63-1, 1<<63, 1<<63+1, math.MaxUint64-2, math.MaxUint64-1, math.MaxUint64)
}

// manySigned is numbers of both signs, whose bytes hold each count of digits.
func manySigned() []int64 {
	l := []int64{0, 1, -1, 2, -2, 63, 64, -64, -65, math.MaxInt64, math.MinInt64, math.MaxInt64 - 1, math.MinInt64 + 1}
	for shift := 7; shift < 63; shift += 8 {
		n := int64(1) << shift
		l = append(l, n-1, n, n+1, -n-1, -n, -n+1)
	}
	return l
}

// manyTexts is texts of which some look like numbers, texts and noughts, and whose lengths need one to three digits.
func manyTexts() []string {
	l := []string{"", "a", "ab", "\x00", "\x00\x00", "\x01\x02ab", "\x08\xff", "\xff\xfe", "β"}
	for _, n := range []int{7, 8, 9, 255, 256, 257, 65535, 65536, 65537} {
		l = append(l, strings.Repeat("x", n))
	}
	return l
}

// behind is what may follow the bytes that are got.
var behind = []string{"", "\x00", "\x01", "\x08", "\x09", "\xff\xff\xff\xff\xff\xff\xff\xff\xff", "ab", "\x01\x02ab"}

// plainNum is a number's bytes by another way than Num's.
func plainNum(n uint64) string {
	var all [8]byte
	binary.BigEndian.PutUint64(all[:], n)
	digits := strings.TrimLeft(string(all[:]), "\x00")
	return string(rune(len(digits))) + digits
}

func wantNum(t *testing.T, s string, n uint64, size int, e api.Errno) {
	t.Helper()
	if m, k, f := GetNum(s); m != n || k != size || f != e {
		t.Errorf("GetNum(%x): %d, %d, error %d; want %d, %d, error %d", s, m, k, f, n, size, e)
	}
}

func wantSigned(t *testing.T, s string, n int64, size int, e api.Errno) {
	t.Helper()
	if m, k, f := GetSigned(s); m != n || k != size || f != e {
		t.Errorf("GetSigned(%x): %d, %d, error %d; want %d, %d, error %d", s, m, k, f, n, size, e)
	}
}

func wantText(t *testing.T, s string, most int, text string, size int, e api.Errno) {
	t.Helper()
	if u, k, f := GetText(s, most); u != text || k != size || f != e {
		t.Errorf("GetText(%.20x of %d bytes, %d): %.20x of %d bytes, %d, error %d; want %.20x of %d bytes, %d, error %d",
			s, len(s), most, u, len(u), k, f, text, len(text), size, e)
	}
}

// Promise 1.1: a number's bytes, written out.
func TestNumWritten(t *testing.T) {
	for n, want := range map[uint64]string{
		0:                  "\x00",
		1:                  "\x01\x01",
		255:                "\x01\xff",
		256:                "\x02\x01\x00",
		65535:              "\x02\xff\xff",
		65536:              "\x03\x01\x00\x00",
		0x0102030405060708: "\x08\x01\x02\x03\x04\x05\x06\x07\x08",
		1 << 56:            "\x08\x01\x00\x00\x00\x00\x00\x00\x00",
		1<<56 - 1:          "\x07\xff\xff\xff\xff\xff\xff\xff",
		math.MaxUint64:     "\x08\xff\xff\xff\xff\xff\xff\xff\xff",
	} {
		if s := Num(n); s != want {
			t.Errorf("Num(%d): %x, want %x", n, s, want)
		}
	}
}

// Promise 1.1: a number's bytes, against another way to write them.
func TestNumIsPlainNum(t *testing.T) {
	for _, n := range manyNumbers() {
		if s, want := Num(n), plainNum(n); s != want {
			t.Errorf("Num(%d): %x, want %x", n, s, want)
		}
		wantNum(t, plainNum(n), n, len(plainNum(n)), api.OK)
	}
}

// Promise 1.1: with a sign a number is written as twice it, or as less than twice it, turned round.
func TestSignedWritten(t *testing.T) {
	for n, want := range map[int64]string{
		0:             "\x00",
		-1:            "\x01\x01",
		1:             "\x01\x02",
		-2:            "\x01\x03",
		127:           "\x01\xfe",
		-128:          "\x01\xff",
		128:           "\x02\x01\x00",
		math.MaxInt64: "\x08\xff\xff\xff\xff\xff\xff\xff\xfe",
		math.MinInt64: "\x08\xff\xff\xff\xff\xff\xff\xff\xff",
	} {
		if s := Signed(n); s != want {
			t.Errorf("Signed(%d): %x, want %x", n, s, want)
		}
	}
}

// Promise 1.1: the number 2n or -2n - 1, reckoned without any bound.
func TestSignedIsTwice(t *testing.T) {
	for _, n := range manySigned() {
		twice := new(big.Int).Mul(big.NewInt(n), big.NewInt(2))
		if n < 0 {
			twice.Sub(twice.Neg(twice), big.NewInt(1))
		}
		want := plainNum(twice.Uint64())
		if s := Signed(n); s != want {
			t.Errorf("Signed(%d): %x, want %x", n, s, want)
		}
		wantSigned(t, want, n, len(want), api.OK)
	}
}

// numErrors is bytes with no number at their front.
func numErrors() map[string]api.Errno {
	return map[string]api.Errno{
		"":                                     api.ErrShort,
		"\x09":                                 api.ErrRange,
		"\xff":                                 api.ErrRange,
		"\x09123456789":                        api.ErrRange,
		"\x0900000000":                         api.ErrRange,
		"\x01":                                 api.ErrShort,
		"\x02\x01":                             api.ErrShort,
		"\x08\x01\x02\x03":                     api.ErrShort,
		"\x08\x01\x02\x03\x04\x05\x06\x07":     api.ErrShort,
		"\x02\x00":                             api.ErrShort,
		"\x08\x00\x00":                         api.ErrShort,
		"\x01\x00":                             api.ErrField,
		"\x01\x00\x01":                         api.ErrField,
		"\x02\x00\x01":                         api.ErrField,
		"\x08\x00\x01\x02\x03\x04\x05\x06\x07": api.ErrField,
		"\x08\x00\x00\x00\x00\x00\x00\x00\x00": api.ErrField,
	}
}

// Promise 1.1: the errors, and nothing beside them (R2).
func TestNumErrors(t *testing.T) {
	for s, e := range numErrors() {
		wantNum(t, s, 0, 0, e)
		wantSigned(t, s, 0, 0, e)
	}
}

// Promise 1.1: each first byte with each count of digits behind it, of which the first one is 0 or not.
func TestNumFirstByte(t *testing.T) {
	for first := range 256 {
		for count := range 11 {
			for _, digit := range []byte{0, 1, 255} {
				s := string([]byte{byte(first)}) + strings.Repeat(string([]byte{digit}), count)
				n, size, e := uint64(0), 0, api.OK
				switch {
				case first > 8:
					e = api.ErrRange
				case count < first:
					e = api.ErrShort
				case first > 0 && digit == 0:
					e = api.ErrField
				default:
					size = 1 + first
					for range first {
						n = n*256 + uint64(digit)
					}
				}
				wantNum(t, s, n, size, e)
			}
		}
	}
}

// Promise 1.1: only what stands in front is got.
func TestNumWithMoreBehind(t *testing.T) {
	wantNum(t, "\x00\x05\x06", 0, 1, api.OK)
	wantNum(t, "\x01\x05\x06", 5, 2, api.OK)
	wantNum(t, "\x01\x05\x00", 5, 2, api.OK)
	wantNum(t, "\x02\x05\x00\x09", 1280, 3, api.OK)
	wantSigned(t, "\x01\x05\x06", -3, 2, api.OK)
	wantSigned(t, "\x00\x05", 0, 1, api.OK)
}

// Promise 1.2: a text's bytes.
func TestTextWritten(t *testing.T) {
	for s, want := range map[string]string{
		"":         "\x00",
		"ab":       "\x01\x02ab",
		"\x00":     "\x01\x01\x00",
		"\xff\xfe": "\x01\x02\xff\xfe",
		"β":        "\x01\x02\xce\xb2",
	} {
		if got := Text(s); got != want {
			t.Errorf("Text(%x): %x, want %x", s, got, want)
		}
	}
	for _, s := range manyTexts() {
		if got := Text(s); got != plainNum(uint64(len(s)))+s {
			t.Errorf("Text of %d bytes: %.20x", len(s), got)
		}
	}
}

// Promise 1.2: a text may have as many bytes as most, and no more.
func TestTextMost(t *testing.T) {
	for _, s := range manyTexts() {
		n, w := len(s), Text(s)
		wantText(t, w, n, s, len(w), api.OK)
		wantText(t, w, n+1, s, len(w), api.OK)
		wantText(t, w, math.MaxInt, s, len(w), api.OK)
		wantText(t, w, n-1, "", 0, api.ErrLong)
		wantText(t, w, -1, "", 0, api.ErrLong)
		wantText(t, w, math.MinInt, "", 0, api.ErrLong)
	}
}

// Promise 1.2: a number's errors are told ahead of a text's own.
func TestTextNumErrors(t *testing.T) {
	for s, e := range numErrors() {
		for _, most := range []int{math.MinInt, -1, 0, 1, api.MaxText, math.MaxInt} {
			wantText(t, s, most, "", 0, e)
		}
	}
}

// Promise 1.2: ErrLong is told ahead of ErrShort, and numbers beyond int are long, too.
func TestTextErrors(t *testing.T) {
	for _, c := range []struct {
		s    string
		most int
		e    api.Errno
	}{
		{"\x01\x02", 2, api.ErrShort},
		{"\x01\x02a", 2, api.ErrShort},
		{"\x01\x02a", 1, api.ErrLong},
		{"\x01\x02", 0, api.ErrLong},
		{"\x01\x02ab", 1, api.ErrLong},
		{"\x01\x01", 1, api.ErrShort},
		{"\x00", -1, api.ErrLong},
		{"\x00ab", math.MinInt, api.ErrLong},
		{Num(api.MaxText + 1), api.MaxText, api.ErrLong},
		{Num(api.MaxText), api.MaxText, api.ErrShort},
		{Num(math.MaxInt) + "ab", math.MaxInt, api.ErrShort},
		{Num(math.MaxInt+1) + "ab", math.MaxInt, api.ErrLong},
		{Num(math.MaxUint64) + "ab", math.MaxInt, api.ErrLong},
		{Num(math.MaxUint64) + "ab", -1, api.ErrLong},
		{Num(1<<32) + "ab", 2, api.ErrLong},
	} {
		wantText(t, c.s, c.most, "", 0, c.e)
	}
}

// Promise 1.2: only what stands in front is got, and its number counts with it.
func TestTextWithMoreBehind(t *testing.T) {
	wantText(t, "\x00ab", 2, "", 1, api.OK)
	wantText(t, "\x00ab", 0, "", 1, api.OK)
	wantText(t, "\x01\x02abc", 2, "ab", 4, api.OK)
	wantText(t, "\x01\x01\x00\x00", 9, "\x00", 3, api.OK)
	long := strings.Repeat("y", 256)
	wantText(t, "\x02\x01\x00"+long+"z", 256, long, 259, api.OK)
}

// Promise 1.3: what is written is got again, whatever follows.
func TestWrittenIsGot(t *testing.T) {
	for _, more := range behind {
		for _, n := range manyNumbers() {
			wantNum(t, Num(n)+more, n, len(Num(n)), api.OK)
		}
		for _, n := range manySigned() {
			wantSigned(t, Signed(n)+more, n, len(Signed(n)), api.OK)
		}
		for _, s := range manyTexts() {
			wantText(t, Text(s)+more, len(s), s, len(Text(s)), api.OK)
		}
	}
}

// Promise 1.3: cut off anywhere, what is written is not got.
func TestCutOffIsShort(t *testing.T) {
	for _, n := range manyNumbers() {
		for k := range len(Num(n)) {
			wantNum(t, Num(n)[:k], 0, 0, api.ErrShort)
		}
	}
	for k := range len(Text("abc")) {
		wantText(t, Text("abc")[:k], 3, "", 0, api.ErrShort)
	}
}

// sameBytes tells whether what is got of s is written as the bytes that it was, and what is not got is nothing else either.
func sameBytes(t *testing.T, s string, most int) {
	t.Helper()
	n, k, e := GetNum(s)
	m, j, f := GetSigned(s)
	if e != f || k != j {
		t.Fatalf("%x: GetNum: %d, error %d; GetSigned: %d, error %d", s, k, e, j, f)
	}
	if e == api.OK && (Num(n) != s[:k] || Signed(m) != s[:k]) {
		t.Fatalf("%x: got %d and %d, written as %x and %x", s, n, m, Num(n), Signed(m))
	}
	if e != api.OK && (n != 0 || k != 0 || m != 0) {
		t.Fatalf("%x: error %d with %d, %d, %d", s, e, n, k, m)
	}
	u, i, g := GetText(s, most)
	if g == api.OK && (Text(u) != s[:i] || len(u) > most) {
		t.Fatalf("%x, %d: got %x, written as %x", s, most, u, Text(u))
	}
	if g != api.OK && (u != "" || i != 0) {
		t.Fatalf("%x, %d: error %d with %x, %d", s, most, g, u, i)
	}
}

// Promise 1.3: all texts of up to two bytes, and those of up to five that are made of a few bytes.
func TestGotIsWritten(t *testing.T) {
	for a := range 256 {
		for b := range 256 {
			s := string([]byte{byte(a), byte(b)})
			for k := range 3 {
				sameBytes(t, s[:k], 1)
			}
		}
	}
	few := "\x00\x01\x02\x03\x04\x08\x09\xff"
	all := []string{""}
	for range 5 {
		var longer []string
		for _, s := range all {
			for i := range len(few) {
				longer = append(longer, s+few[i:i+1])
			}
		}
		for _, s := range longer {
			sameBytes(t, s, 2)
		}
		all = longer
	}
}

// Promise 1.3: of two numbers the greater one's bytes are the greater ones.
func TestOrderOfBytes(t *testing.T) {
	l := manyNumbers()
	for _, a := range l {
		for _, b := range l {
			if (a < b) != (Num(a) < Num(b)) || (a == b) != (Num(a) == Num(b)) {
				t.Errorf("%d and %d: %x and %x", a, b, Num(a), Num(b))
			}
		}
	}
	for n := range uint64(70000) {
		if Num(n) >= Num(n+1) {
			t.Fatalf("%d: %x is not below %x", n, Num(n), Num(n+1))
		}
	}
}

// Promise 1.3, of any bytes: none makes a panic (R1), and what is got is written as it was.
func FuzzGot(f *testing.F) {
	for s := range numErrors() {
		f.Add(s, 0)
	}
	for _, s := range manyTexts() {
		f.Add(Text(s), len(s))
	}
	f.Fuzz(func(t *testing.T, s string, most int) { sameBytes(t, s, most) })
}

// Numbers and texts are written one behind the other, and got by their lengths.
func Example() {
	s := Num(256) + Signed(-1) + Text("ab")
	fmt.Printf("% x\n", s)
	n, k, _ := GetNum(s)
	s = s[k:]
	m, k, _ := GetSigned(s)
	s = s[k:]
	text, _, _ := GetText(s, api.MaxText)
	fmt.Println(n, m, text)
	_, _, e := GetText(s, 1)
	fmt.Println(e)
	// Output:
	// 02 01 00 01 01 01 02 61 62
	// 256 -1 ab
	// error 8
}
