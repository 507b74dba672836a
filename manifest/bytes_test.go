package manifest

import (
	"encoding/binary"
	"encoding/hex"
	"fmt"
	"hash/crc32"
	"math"
	"math/big"
	"slices"
	"strings"
	"testing"

	"barograph/api"
)

// plainNum is a number's bytes.
func plainNum(n uint64) string {
	b := new(big.Int).SetUint64(n).Bytes()
	return string(append([]byte{byte(len(b))}, b...))
}

// plainNums is the bytes of numbers in a row.
func plainNums(l ...uint64) string {
	s := ""
	for _, n := range l {
		s += plainNum(n)
	}
	return s
}

// plainSigned is the bytes of a number with a sign: twice the number, or one less than twice what is below 0.
func plainSigned(n int64) string {
	b := new(big.Int).Lsh(big.NewInt(n), 1)
	if n < 0 {
		b.Not(b)
	}
	return plainNum(b.Uint64())
}

// text is a text's bytes.
func text(s string) string { return plainNum(uint64(len(s))) + s }

// texts is the bytes of texts in a row.
func texts(l ...string) string {
	s := ""
	for _, x := range l {
		s += text(x)
	}
	return s
}

// frameBytes is a frame's bytes.
func frameBytes(kind byte, data string) string {
	s := string([]byte{kind}) + text(data)
	c := crc32.Checksum([]byte(s), crc32.MakeTable(crc32.Castagnoli))
	return s + string(binary.BigEndian.AppendUint32(nil, c))
}

// plainData is the data of a manifest, whether or not it is right.
func plainData(m Manifest) string {
	return plainNums(uint64(m.Epoch), uint64(m.Base), uint64(m.Promise)) + plainSigned(m.Mark) +
		plainNums(uint64(m.Check), uint64(len(m.Blocks))) + texts(m.Blocks...)
}

// plainBytes is the bytes of a manifest, whether or not it is right.
func plainBytes(m Manifest) string { return frameBytes(6, plainData(m)) }

// plainEncode is Encode by another way.
func plainEncode(m Manifest) (string, api.Errno) {
	if e := plainCheck(m); e != api.OK {
		return "", e
	}
	return plainBytes(m), api.OK
}

// plainTaker takes numbers and texts from the front of bytes, whatever these are.
type plainTaker string

func (in *plainTaker) bytes(count uint64) string {
	size := min(count, uint64(len(*in)))
	s := (*in)[:size]
	*in = (*in)[size:]
	return string(s)
}

func (in *plainTaker) number() *big.Int {
	count := uint64(0)
	if s := in.bytes(1); s != "" {
		count = uint64(s[0])
	}
	return new(big.Int).SetBytes([]byte(in.bytes(count)))
}

func (in *plainTaker) small() int { return int(in.number().Uint64()) }

func (in *plainTaker) time() int64 {
	n := in.number()
	odd := n.Bit(0) == 1
	if n.Rsh(n, 1); odd {
		n.Not(n)
	}
	return n.Int64()
}

// plainDecode is Decode by another way: it reads what seems to be a manifest, and then asks whether that one's bytes are those that it has read.
func plainDecode(s string) (Manifest, api.Errno) {
	in := plainTaker(s)
	in.bytes(1)
	in.number()
	var m Manifest
	m.Epoch, m.Base, m.Promise = in.small(), in.small(), in.small()
	m.Mark, m.Check = in.time(), in.small()
	for range min(in.number().Uint64(), 17) {
		m.Blocks = append(m.Blocks, in.bytes(in.number().Uint64()))
	}
	if again, e := plainEncode(m); e != api.OK || again != s {
		return Manifest{}, api.ErrField
	}
	return m, api.OK
}

// wantDecode decodes bytes, and holds the answer against another way; a manifest that is told is right, and is encoded as the bytes again.
func wantDecode(t *testing.T, s string) api.Errno {
	t.Helper()
	want, wantErrno := plainDecode(s)
	m, e := Decode(s)
	if e != wantErrno || !same(m, want) {
		t.Errorf("Decode of %d bytes %.200x: %s, %v; want %s, %v", len(s), s, brief(m), e, brief(want), wantErrno)
	}
	if e != api.OK {
		return e
	}
	if e := Check(m); e != api.OK {
		t.Errorf("Check of %s, which Decode told: %v", brief(m), e)
	}
	if again, e := Encode(m); e != api.OK || again != s {
		t.Errorf("Encode of Decode of %.200x: %.200x, %v", s, again, e)
	}
	return e
}

// wantNo decodes bytes that are no manifest's.
func wantNo(t *testing.T, s, name string) {
	t.Helper()
	if e := wantDecode(t, s); e != api.ErrField {
		t.Errorf("%s: Decode of %d bytes %.200x: %v; want %v", name, len(s), s, e, api.ErrField)
	}
}

// wantNoData decodes a frame whose kind and sum are right, but whose data is no manifest's.
func wantNoData(t *testing.T, name string, parts ...string) {
	t.Helper()
	wantNo(t, frameBytes(6, strings.Join(parts, "")), name)
}

// wantBytes encodes a manifest as these bytes, and decodes them.
func wantBytes(t *testing.T, m Manifest, want string) {
	t.Helper()
	s, e := Encode(m)
	if e != api.OK || s != want {
		t.Errorf("Encode of %s: %x, %v; want %x", brief(m), s, e, want)
	}
	got, e := Decode(want)
	if e != api.OK || !same(got, m) {
		t.Errorf("Decode of %x: %s, %v; want %s", want, brief(got), e, brief(m))
	}
	wantDecode(t, want)
}

// wantWhole encodes and decodes a manifest that is right.
func wantWhole(t *testing.T, m Manifest) {
	t.Helper()
	s, e := plainEncode(m)
	if e != api.OK {
		t.Fatalf("%s: %v by another way", brief(m), e)
	}
	wantBytes(t, m, s)
}

// bytesOf is the bytes of hexadecimal signs, with blanks between.
func bytesOf(l ...string) string {
	b, err := hex.DecodeString(strings.ReplaceAll(strings.Join(l, ""), " ", ""))
	if err != nil {
		panic(err)
	}
	return string(b)
}

// Promise 17.1: bytes written out, their sums too.
func TestBytes(t *testing.T) {
	wantBytes(t, None(), bytesOf(
		"06 01 10 01 01 00 01 01 08 FF FF FF FF FF FF FF FF 00 00 42 AD C1 75"))
	wantBytes(t, Manifest{Epoch: 2, Promise: 2, Blocks: []string{"b1"}}, bytesOf(
		"06 01 0D 01 02 00 01 02 00 00 01 01 01 02 62 31 FC B6 85 EB"))
	wantBytes(t, good("b00000001-00000004", "b00000005-00000007"), bytesOf(
		"06 01 35 01 02 01 05 02 01 2C 01 28 01 07 01 02",
		"01 12 62 30 30 30 30 30 30 30 31 2D 30 30 30 30 30 30 30 34",
		"01 12 62 30 30 30 30 30 30 30 35 2D 30 30 30 30 30 30 30 37 FA 9C 83 A9"))
	wantBytes(t, Manifest{most, most, most, math.MaxInt64, most, []string{strings.Repeat("a", 32)}}, bytesOf(
		"06 01 41 04 05 F5 E0 FF 04 05 F5 E0 FF 04 05 F5 E0 FF",
		"08 FF FF FF FF FF FF FF FE 04 05 F5 E0 FF 01 01",
		"01 20 61 61 61 61 61 61 61 61 61 61 61 61 61 61 61 61",
		"61 61 61 61 61 61 61 61 61 61 61 61 61 61 61 61 DD 44 AD A5"))
}

// Promise 17.1: manifests of each number and mark, of each count of names and of each length, encoded as by another way, and decoded again.
func TestEncodeIsPlain(t *testing.T) {
	for _, n := range numbers() {
		if n < 0 || n > most {
			continue
		}
		wantWhole(t, Manifest{Epoch: max(n, 1), Promise: most})
		wantWhole(t, Manifest{Epoch: 1, Promise: max(n, 1)})
		wantWhole(t, Manifest{Epoch: 1, Promise: 1, Base: n})
		wantWhole(t, Manifest{Epoch: 1, Promise: 1, Check: n})
		wantWhole(t, Manifest{Epoch: 3, Promise: 4, Base: n, Mark: -5, Check: n, Blocks: numbered(2)})
	}
	for _, mark := range times() {
		wantWhole(t, Manifest{Epoch: 1, Promise: 1, Mark: mark})
		wantWhole(t, Manifest{Epoch: 1, Base: 2, Promise: 3, Mark: mark, Check: 4, Blocks: numbered(2)})
	}
	for count := range 17 {
		wantWhole(t, good(numbered(count)...))
		l := numbered(count)
		slices.Reverse(l)
		wantWhole(t, good(l...))
		wantWhole(t, good(slices.Repeat([]string{strings.Repeat(".", 32)}, count)...))
	}
	for size := 1; size <= 32; size++ {
		wantWhole(t, good(strings.Repeat("0", size), "-", strings.Repeat("z", size)))
	}
	for seed := range 2000 {
		wantWhole(t, anyRight(seed))
	}
}

// samples is some manifests of all kinds.
func samples() []Manifest {
	return []Manifest{None(), {Epoch: 2, Promise: 2}, good(), good("b1"), good("a", "b", "c"), good(numbered(16)...), {most, most, most, math.MinInt64, most, numbered(2)}}
}

// Promise 17.1: bytes cut at each end, and bytes more, are none.
func TestDecodeCuts(t *testing.T) {
	wantNo(t, "", "no bytes")
	for _, m := range samples() {
		s, _ := plainEncode(m)
		wantDecode(t, s)
		for at := range s {
			wantNo(t, s[:at], "cut at its end")
			wantNo(t, s[at+1:], "cut at its front")
		}
		for c := range 256 {
			wantNo(t, s+string([]byte{byte(c)}), "a byte more behind")
			wantNo(t, string([]byte{byte(c)})+s, "a byte more in front")
		}
		wantNo(t, s+s, "twice")
		wantNo(t, s+frameBytes(6, ""), "a frame behind")
		wantNo(t, s+strings.Repeat("\x00", 70000), "many bytes behind")
	}
}

// Promise 17.1: each byte changed in each way is none, as the sum is another one then.
func TestDecodeEachByte(t *testing.T) {
	for _, m := range samples() {
		s, _ := plainEncode(m)
		for at := range len(s) {
			for c := range 256 {
				if byte(c) != s[at] {
					wantNo(t, s[:at]+string([]byte{byte(c)})+s[at+1:], "a byte changed")
				}
			}
		}
	}
}

// Promise 17.1: each byte of the data changed, left out and put in, in each way, with a sum that is right.
func TestDecodeEachByteOfData(t *testing.T) {
	right, wrong := 0, 0
	for _, m := range samples() {
		data := plainData(m)
		for at := range len(data) + 1 {
			for c := range 256 {
				sign := string([]byte{byte(c)})
				tries := []string{data[:at] + sign + data[at:]}
				if at < len(data) {
					tries = append(tries, data[:at]+sign+data[at+1:], data[:at]+data[at+1:])
				}
				for _, data := range tries {
					if wantDecode(t, frameBytes(6, data)) == api.OK {
						right++
					} else {
						wrong++
					}
				}
			}
		}
	}
	if right < 1000 || wrong < 1000 {
		t.Errorf("%d were right, %d wrong", right, wrong)
	}
}

// Promise 17.1: the frame's kind is 6.
func TestDecodeKind(t *testing.T) {
	for _, m := range samples() {
		for kind := range 256 {
			s := frameBytes(byte(kind), plainData(m))
			if kind == 6 {
				wantBytes(t, m, s)
			} else {
				wantNo(t, s, fmt.Sprintf("kind %d", kind))
			}
		}
	}
}

// Promise 17.1: the length of a frame's data is written in one way alone, and is that of the data.
func TestDecodeLength(t *testing.T) {
	data := plainData(good("b"))
	for name, length := range map[string]string{
		"a nought in front": "\x02\x00" + string(rune(len(data))),
		"nine digits":       "\x09\x00\x00\x00\x00\x00\x00\x00\x00" + string(rune(len(data))),
		"less":              plainNum(uint64(len(data) - 1)),
		"more":              plainNum(uint64(len(data) + 1)),
		"none":              plainNum(0),
		"far more":          plainNum(math.MaxUint64),
	} {
		s := "\x06" + length + data
		c := crc32.Checksum([]byte(s), crc32.MakeTable(crc32.Castagnoli))
		wantNo(t, s+string(binary.BigEndian.AppendUint32(nil, c)), name)
	}
	for _, data := range []string{"", "\x00", strings.Repeat("\x00", 6), strings.Repeat("b", 65536), plainData(good()) + strings.Repeat("\x00", 65000), strings.Repeat("\x01", 65537)} {
		wantNoData(t, "other data", data)
	}
}

// badNumbers is numbers that are above what a manifest may have; as numbers of 32 bits, or with a sign, some would not be.
func badNumbers() []uint64 {
	return []uint64{most + 1, most + 2, 1 << 27, 1<<31 - 1, 1 << 31, 1<<32 - 1, 1 << 32, 1<<32 + 1, 1<<32 + 2, 1<<32 + most, 3<<32 + 16, 1<<62 + 1, 1<<63 - 1, 1 << 63, 1<<63 + 1, 1<<63 + 16, 1<<64 - 2, 1<<64 - 1}
}

// Promise 17.1: each number of the data too great, cut short, or written in another way.
func TestDecodeNumbers(t *testing.T) {
	// The data's parts: of the names there is one.
	parts := func() []string {
		return []string{plainNum(2), plainNum(5), plainNum(300), plainSigned(20), plainNum(7), plainNum(1), text("b")}
	}
	wantBytes(t, good("b"), frameBytes(6, strings.Join(parts(), "")))
	for at := range 6 {
		with := func(part string) []string {
			l := parts()
			l[at] = part
			return l
		}
		for _, n := range badNumbers() {
			if at == 3 {
				continue
			}
			wantNoData(t, fmt.Sprintf("number %d is %d", at, n), with(plainNum(n))...)
		}
		for _, part := range []string{"", "\x01\x00", "\x02\x00\x01", "\x08\x00\x00\x00\x00\x00\x00\x00\x02", "\x09\x00\x00\x00\x00\x00\x00\x00\x00\x02", "\xff", "\x08"} {
			wantNoData(t, fmt.Sprintf("number %d is %x", at, part), with(part)...)
		}
		wantNoData(t, fmt.Sprintf("ends ahead of number %d", at), parts()[:at]...)
		wantNoData(t, fmt.Sprintf("ends in number %d", at), strings.Join(parts()[:at], ""), "\x02\x01")
	}
	// The mark alone may be any number of 64 bits.
	for _, n := range append(badNumbers(), 0, 1, 2, most) {
		l := parts()
		l[3] = plainNum(n)
		if e := wantDecode(t, frameBytes(6, strings.Join(l, ""))); e != api.OK {
			t.Errorf("a mark written as %d: %v", n, e)
		}
	}
}

// Promise 17.1: bytes of manifests that are not right.
func TestDecodeNotRight(t *testing.T) {
	for _, m := range []Manifest{
		{},
		{Epoch: 0, Promise: 1},
		{Epoch: 0, Promise: 0},
		{Epoch: 2, Promise: 1},
		{Epoch: most, Promise: most - 1},
		{Epoch: most + 1, Promise: most + 1},
		{Epoch: 1, Promise: most + 1},
		{Epoch: 1, Promise: 1, Base: most + 1},
		{Epoch: 1, Promise: 1, Check: most + 1},
		{Epoch: 1, Promise: 1, Base: -1},
		{Epoch: 1, Promise: 1, Check: math.MinInt},
		good(numbered(17)...),
		good(numbered(18)...),
		good(numbered(3000)...),
		good(make([]string, 60000)...),
		good(""),
		good("b", ""),
		good("", "b"),
		good("B"),
		good("b", "b/"),
		good("b\x00"),
		good("\xff"),
		good("é"),
		good(strings.Repeat("b", 33)),
		good("b", strings.Repeat("b", 33)),
		good(strings.Repeat("b", 33), "b"),
		good(strings.Repeat("b", 256)),
		good(strings.Repeat("b", 65000)),
	} {
		wantNo(t, plainBytes(m), brief(m))
	}
	for seed := range 5000 {
		m := anyManifest(seed)
		if e := wantDecode(t, plainBytes(m)); (e == api.OK) != (plainCheck(m) == api.OK) {
			t.Errorf("Decode of the bytes of %s: %v", brief(m), e)
		}
	}
}

// Promise 17.1: how many names there are, told wrong.
func TestDecodeCounts(t *testing.T) {
	for count := range 20 {
		for told := range 40 {
			m := good(numbered(count)...)
			numbers := strings.TrimSuffix(plainData(good()), plainNum(0))
			e := wantDecode(t, frameBytes(6, numbers+plainNum(uint64(told))+texts(m.Blocks...)))
			if want := told == count && count <= 16; (e == api.OK) != want {
				t.Errorf("%d names, told as %d: %v", count, told, e)
			}
		}
		for _, told := range badNumbers() {
			m := good(numbered(count)...)
			numbers := strings.TrimSuffix(plainData(good()), plainNum(0))
			wantNoData(t, fmt.Sprintf("%d names told", told), numbers, plainNum(told), texts(m.Blocks...))
		}
	}
}

// Promise 17.1: a name's length told wrong, or written in another way.
func TestDecodeNames(t *testing.T) {
	numbers := strings.TrimSuffix(plainData(good()), plainNum(0))
	for _, part := range []string{"\x01\x02b", "\x01\x00", "\x00", "", "\x01", "\x02\x00\x01b", "\x09b", "\x01\x01", "\x01\x01bb", "\x08\xff\xff\xff\xff\xff\xff\xff\xffb", "\x08\x00\x00\x00\x00\x00\x00\x00\x01b"} {
		wantNoData(t, "one name", numbers, plainNum(1), part)
		wantNoData(t, "the last name", numbers, plainNum(3), texts("b", "c"), part)
		wantNoData(t, "the first name", numbers, plainNum(2), part, text("b"))
		wantNoData(t, "one of 16 names", numbers, plainNum(16), texts(numbered(15)...), part)
	}
}

// R1, R6: any bytes, against another way.
func TestDecodeAnyBytes(t *testing.T) {
	for seed := range 20000 {
		c := mixed(seed)
		s := []byte(plainData(anyManifest(seed)))
		for i := range c % 4 {
			d := mixed(seed*5 + int(i))
			s[d%uint64(len(s))] = byte(d >> 32)
		}
		s = s[:len(s)-int(c>>20%3)]
		wantDecode(t, frameBytes(6, string(s)))
		wantDecode(t, string(s))
	}
	for _, s := range []string{strings.Repeat("\x06", 70000), strings.Repeat("\x00", 1<<20), strings.Repeat("\xff", 1<<20)} {
		wantNo(t, s, "many bytes")
	}
}

func FuzzManifest(f *testing.F) {
	f.Add("")
	for seed := range 20 {
		f.Add(plainBytes(anyRight(seed)))
		f.Add(plainData(anyManifest(seed)))
	}
	f.Fuzz(func(t *testing.T, s string) {
		wantDecode(t, s)
		wantDecode(t, frameBytes(6, s))
	})
}
