// Package digits is layer 1: numbers and texts as bytes. See shared/doc/01-digits.md.
package digits

import "barograph/api"

// mostDigits is how many digits in the base 256 the greatest number of 64 bits has.
const mostDigits = 8

// Num is a number's bytes.
func Num(n uint64) string {
	// Filled from its end: how many digits there are, and with that the first byte, is known only behind the last division.
	var room [1 + mostDigits]byte
	at := len(room)
	count := 0
	for ; n != 0; n >>= 8 {
		at--
		room[at] = byte(n)
		count++
	}
	at--
	room[at] = byte(count)
	return string(room[at:])
}

// GetNum is the number at the front of bytes, and in how many.
func GetNum(s string) (uint64, int, api.Errno) {
	if s == "" {
		return 0, 0, api.ErrShort
	}
	count := int(s[0])
	if count > mostDigits {
		return 0, 0, api.ErrRange
	}
	if len(s)-1 < count {
		return 0, 0, api.ErrShort
	}
	// A nought in front would be a second way to write the same number.
	if count > 0 && s[1] == 0 {
		return 0, 0, api.ErrField
	}
	n := uint64(0)
	for _, digit := range []byte(s[1 : 1+count]) {
		n = n<<8 | uint64(digit)
	}
	return n, 1 + count, api.OK
}

// Signed is a number's bytes, with its sign.
func Signed(n int64) string {
	if n < 0 {
		// The same as -2n - 1, but no step of it leaves 64 bits, for the least number neither.
		return Num(2*uint64(-(n+1)) + 1)
	}
	return Num(2 * uint64(n))
}

// GetSigned is such a number at the front of bytes, and in how many.
func GetSigned(s string) (int64, int, api.Errno) {
	n, size, e := GetNum(s)
	if e != api.OK {
		return 0, 0, e
	}
	half := int64(n / 2)
	if n%2 == 1 {
		return -half - 1, size, api.OK
	}
	return half, size, api.OK
}

// Text is a text's bytes, with their count.
func Text(s string) string { return Num(uint64(len(s))) + s }

// GetText is the text at the front of bytes, and in how many.
func GetText(s string, most int) (string, int, api.Errno) {
	n, size, e := GetNum(s)
	if e != api.OK {
		return "", 0, e
	}
	// A limit below 0 is asked for ahead: without its sign it would be a great one.
	if most < 0 || n > uint64(most) {
		return "", 0, api.ErrLong
	}
	if n > uint64(len(s)-size) {
		return "", 0, api.ErrShort
	}
	end := size + int(n)
	return s[size:end], end, api.OK
}
