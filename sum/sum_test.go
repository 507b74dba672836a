package sum

import (
	"encoding/binary"
	"fmt"
	"hash/crc32"
	"math/bits"
	"strings"
	"testing"

	"barograph/api"
)

// plainSum is a text's check sum by another way than Of's: the library's.
func plainSum(s string) uint32 { return plainMore(0, s) }

// plainMore is More by the library's way.
func plainMore(c uint32, s string) uint32 {
	return crc32.Update(c, crc32.MakeTable(crc32.Castagnoli), []byte(s))
}

// mixed is a text of n bytes that look like any, the same ones at each call.
func mixed(n int) string {
	b := make([]byte, n)
	x := uint32(1)
	for i := range b {
		x = x*1664525 + 1013904223
		b[i] = byte(x >> 24)
	}
	return string(b)
}

// manyTexts is ordinary texts, noughts, high bytes, runes whole and broken, and texts around the limit and beyond it.
func manyTexts() []string {
	l := []string{"", "a", "ab", "ba", "123456789", "\x00", "\x00\x00", "\xff", "\xff\xff\xff\xff", "\x80", "\x7f",
		"β", "\xce", "\xff\xfe", "\xed\xa0\x80", "a\x00", "\x00a"}
	for _, n := range []int{3, 7, 8, 9, 31, 32, 33, 255, 256, 257, api.MaxText - 1, api.MaxText, api.MaxText + 1, 1 << 18} {
		l = append(l, mixed(n), strings.Repeat("\x00", n), strings.Repeat("\xff", n))
	}
	return l
}

// manySums is numbers that may be sums, those at the edges, and each bit alone, set and not set.
func manySums() []uint32 {
	l := []uint32{0, 1, 2, 255, 256, 0x82F63B78, 0x7D09C487, 0xE3069283, 0x7FFFFFFF, 0x80000000, 0xFFFFFFFE, 0xFFFFFFFF}
	for i := range 32 {
		l = append(l, 1<<i, ^(uint32(1) << i))
	}
	return l
}

// Promise 2.1: sums that are known.
func TestOfWritten(t *testing.T) {
	rising, falling := make([]byte, 32), make([]byte, 32)
	for i := range rising {
		rising[i], falling[31-i] = byte(i), byte(i)
	}
	for s, want := range map[string]uint32{
		"":                         0x00000000,
		"123456789":                0xE3069283,
		"a":                        0xC1D04330,
		strings.Repeat("\x00", 32): 0x8A9136AA,
		strings.Repeat("\xff", 32): 0x62A8AB43,
		string(rising):             0x46DD794E,
		string(falling):            0x113FDB5C,
	} {
		if c := Of(s); c != want {
			t.Errorf("Of(%x): %08X, want %08X", s, c, want)
		}
	}
}

// Promise 2.1: each text of up to two bytes, and many longer ones, against the library's way.
func TestOfIsPlainSum(t *testing.T) {
	for a := range 256 {
		if s := string([]byte{byte(a)}); Of(s) != plainSum(s) {
			t.Errorf("Of(%x): %08X, want %08X", s, Of(s), plainSum(s))
		}
		for b := range 256 {
			if s := string([]byte{byte(a), byte(b)}); Of(s) != plainSum(s) {
				t.Fatalf("Of(%x): %08X, want %08X", s, Of(s), plainSum(s))
			}
		}
	}
	for _, s := range manyTexts() {
		if Of(s) != plainSum(s) {
			t.Errorf("Of(%.20x of %d bytes): %08X, want %08X", s, len(s), Of(s), plainSum(s))
		}
	}
}

// Promise 2.1: More is reckoned from the sum alone, be it the sum of what it may.
func TestMoreFromAnySum(t *testing.T) {
	for _, c := range manySums() {
		if m := More(c, ""); m != c {
			t.Errorf("More(%08X) of nothing: %08X", c, m)
		}
		for _, s := range []string{"a", "\x00", "\xff", "123456789", "\xce", mixed(300)} {
			if m, want := More(c, s), plainMore(c, s); m != want {
				t.Errorf("More(%08X, %.20x): %08X, want %08X", c, s, m, want)
			}
		}
	}
}

// Promise 2.1: the highest byte first, and each of the four, noughts too.
func TestBytesWritten(t *testing.T) {
	for c, want := range map[uint32]string{
		0:          "\x00\x00\x00\x00",
		1:          "\x00\x00\x00\x01",
		0x100:      "\x00\x00\x01\x00",
		0x01020304: "\x01\x02\x03\x04",
		0x80FF7F00: "\x80\xff\x7f\x00",
		0xE3069283: "\xe3\x06\x92\x83",
		0xFFFFFFFF: "\xff\xff\xff\xff",
	} {
		if s := Bytes(c); s != want {
			t.Errorf("Bytes(%08X): %x, want %x", c, s, want)
		}
	}
	for _, c := range manySums() {
		s := Bytes(c)
		if len(s) != 4 || binary.BigEndian.Uint32([]byte(s)) != c {
			t.Errorf("Bytes(%08X): %x", c, s)
		}
	}
}

// Promise 2.2: cut in two anywhere, or in three, a text's sum is that of its parts, one behind the other.
func TestMoreIsOfWhole(t *testing.T) {
	for _, s := range manyTexts() {
		if len(s) > 300 {
			continue
		}
		for i := range len(s) + 1 {
			if c := More(Of(s[:i]), s[i:]); c != Of(s) {
				t.Errorf("%.20x of %d bytes, cut at %d: %08X, want %08X", s, len(s), i, c, Of(s))
			}
		}
	}
	long := mixed(api.MaxText + 1)
	for _, i := range []int{0, 1, 255, api.MaxText - 1, api.MaxText, api.MaxText + 1} {
		if c := More(Of(long[:i]), long[i:]); c != Of(long) {
			t.Errorf("%d bytes, cut at %d: %08X, want %08X", len(long), i, c, Of(long))
		}
		if c := More(More(Of(long[:i/2]), long[i/2:i]), long[i:]); c != Of(long) {
			t.Errorf("%d bytes, cut at %d and %d: %08X, want %08X", len(long), i/2, i, c, Of(long))
		}
	}
}

// changed is a text of which the bits of a pattern are changed, from the bit at on. A byte's lowest bit is its first one: in this order the sum takes them in.
func changed(s string, at int, pattern uint32) string {
	b := []byte(s)
	for i := range 32 {
		if pattern>>i&1 == 1 {
			b[(at+i)/8] ^= 1 << ((at + i) % 8)
		}
	}
	return string(b)
}

// alone is how many of the numbers can't be made of those before them by exclusive or.
func alone(l []uint32) int {
	var byHighest [33]uint32
	count := 0
	for _, x := range l {
		for x != 0 && byHighest[bits.Len32(x)] != 0 {
			x ^= byHighest[bits.Len32(x)]
		}
		if x != 0 {
			byHighest[bits.Len32(x)] = x
			count++
		}
	}
	return count
}

// Promise 2.2: no change of one to thirty-two bits that stand together leaves the sum. What single bits change of it adds up (exclusive or: the next test); so, where none of 32 neighbours' changes can be made of the others, none of the 2^32 - 1 patterns at that place leaves the sum as it was.
func TestChangesAreSeen(t *testing.T) {
	for _, s := range []string{mixed(4), strings.Repeat("\x00", 5), strings.Repeat("\xff", 7), mixed(20), mixed(261)} {
		for at := range len(s)*8 - 31 {
			var l []uint32
			for i := range 32 {
				l = append(l, Of(s)^Of(changed(s, at, 1<<i)))
			}
			if alone(l) != 32 {
				t.Fatalf("%.20x of %d bytes: a change of 32 bits from the bit %d on is not seen", s, len(s), at)
			}
		}
	}
}

// Promise 2.2: changes add up, as the test above takes it; and each that is tried is seen.
func TestChangesAddUp(t *testing.T) {
	for _, s := range []string{mixed(4), mixed(6), strings.Repeat("\x00", 9)} {
		for at := range len(s)*8 - 31 {
			for _, pattern := range manySums() {
				if pattern == 0 {
					continue
				}
				sum := Of(s)
				for i := range 32 {
					if pattern>>i&1 == 1 {
						sum ^= Of(s) ^ Of(changed(s, at, 1<<i))
					}
				}
				if c := Of(changed(s, at, pattern)); c != sum || c == Of(s) {
					t.Errorf("%x changed by %08X from the bit %d on: %08X, the parts %08X, before %08X", s, pattern, at, c, sum, Of(s))
				}
			}
		}
	}
}

// Promise 2.2: each change within one byte is seen, in texts that are shorter than thirty-two bits, too.
func TestByteChangesAreSeen(t *testing.T) {
	for _, s := range []string{"a", "ab", "abc", "\x00", "\xff\xff", mixed(40)} {
		for at := range len(s) {
			for by := 1; by < 256; by++ {
				if Of(changed(s, at*8, uint32(by))) == Of(s) {
					t.Errorf("%x: byte %d changed by %02x is not seen", s, at, by)
				}
			}
		}
	}
}

// Promises 2.1 and 2.2, of any bytes: none makes a panic (R1).
func FuzzSum(f *testing.F) {
	f.Add("123456789", 4, uint32(0))
	f.Add("", 0, uint32(1))
	f.Fuzz(func(t *testing.T, s string, cut int, c uint32) {
		if Of(s) != plainSum(s) || More(c, s) != plainMore(c, s) {
			t.Fatalf("%x: Of: %08X, want %08X; More(%08X): %08X, want %08X", s, Of(s), plainSum(s), c, More(c, s), plainMore(c, s))
		}
		if 0 <= cut && cut <= len(s) && More(Of(s[:cut]), s[cut:]) != Of(s) {
			t.Fatalf("%x, cut at %d", s, cut)
		}
	})
}

// A text's sum is reckoned at once, or part by part.
func Example() {
	c := Of("123456789")
	fmt.Printf("%08X, % x\n", c, Bytes(c))
	fmt.Printf("%08X\n", More(Of("1234"), "56789"))
	fmt.Printf("%08X\n", Of(""))
	// Output:
	// E3069283, e3 06 92 83
	// E3069283
	// 00000000
}
