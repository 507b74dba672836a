package chunk

import (
	"encoding/hex"
	"fmt"
	"math"
	"math/big"
	"slices"
	"strconv"
	"strings"
	"testing"

	"barograph/api"
)

// plainTimes is a coder of times by another way: on signs 0 and 1, with numbers of any size.
type plainTimes struct {
	begun    bool
	ahead    int64
	distance int64
}

// wrapped is a number of any size, wrapped round into 64 bits with a sign.
func wrapped(n *big.Int) int64 {
	round := new(big.Int).Lsh(big.NewInt(1), 64)
	n = new(big.Int).Mod(n, round)
	if n.Bit(63) == 1 {
		n.Sub(n, round)
	}
	return n.Int64()
}

// plainSum is a and b, wrapped round.
func plainSum(a, b int64) int64 { return wrapped(new(big.Int).Add(big.NewInt(a), big.NewInt(b))) }

// plainLess is a less b, wrapped round.
func plainLess(a, b int64) int64 { return wrapped(new(big.Int).Sub(big.NewInt(a), big.NewInt(b))) }

// plainChange is the signs of a change.
func plainChange(c int64) string {
	switch {
	case c == 0:
		return "0"
	case c >= -63 && c <= 64:
		return fmt.Sprintf("10%07b", c+63)
	case c >= -255 && c <= 256:
		return fmt.Sprintf("110%09b", c+255)
	case c >= -2047 && c <= 2048:
		return fmt.Sprintf("1110%012b", c+2047)
	}
	return fmt.Sprintf("1111%064b", uint64(c))
}

// put is the signs of the next time, and the coder behind it.
func (p plainTimes) put(t int64) (string, plainTimes) {
	if !p.begun {
		return fmt.Sprintf("%064b", uint64(t)), plainTimes{begun: true, ahead: t}
	}
	distance := plainLess(t, p.ahead)
	return plainChange(plainLess(distance, p.distance)), plainTimes{true, t, distance}
}

// seen is which time signs seem to tell, if there are enough of them.
func (p plainTimes) seen(signs string) (int64, bool) {
	if !p.begun {
		n, ok := plainBits(signs, 0, 64)
		return int64(n), ok
	}
	n, ok, add := uint64(0), false, int64(0)
	switch {
	case strings.HasPrefix(signs, "0"):
		ok = true
	case strings.HasPrefix(signs, "10"):
		n, ok = plainBits(signs, 2, 7)
		add = 63
	case strings.HasPrefix(signs, "110"):
		n, ok = plainBits(signs, 3, 9)
		add = 255
	case strings.HasPrefix(signs, "1110"):
		n, ok = plainBits(signs, 4, 12)
		add = 2047
	case strings.HasPrefix(signs, "1111"):
		n, ok = plainBits(signs, 4, 64)
	}
	return plainSum(plainSum(p.ahead, p.distance), plainLess(int64(n), add)), ok
}

// plainValues is a coder of values by another way: on signs 0 and 1.
type plainValues struct {
	begun  bool
	ahead  uint64
	window bool
	lead   int
	tail   int
}

// put is the signs of the next value, and the coder behind it.
func (p plainValues) put(v uint64) (string, plainValues) {
	d := fmt.Sprintf("%064b", p.ahead^v)
	behind := p
	behind.begun, behind.ahead = true, v
	first, last := strings.Index(d, "1"), strings.LastIndex(d, "1")
	switch {
	case !p.begun:
		return d, behind
	case first < 0:
		return "0", behind
	case p.window && first >= p.lead && 63-last >= p.tail:
		return "10" + d[p.lead:64-p.tail], behind
	}
	first = min(first, 31)
	behind.window, behind.lead, behind.tail = true, first, 63-last
	return fmt.Sprintf("11%05b%06b%s", first, last-first, d[first:last+1]), behind
}

// seen is which value signs seem to tell, if there are enough of them.
func (p plainValues) seen(signs string) (uint64, bool) {
	lead, size, from, ok := 0, 64, 0, true
	switch {
	case !p.begun:
	case strings.HasPrefix(signs, "0"):
		return p.ahead, true
	case strings.HasPrefix(signs, "10") && p.window:
		lead, size, from = p.lead, 64-p.lead-p.tail, 2
	case strings.HasPrefix(signs, "11") && len(signs) >= 13:
		own, _ := plainBits(signs, 2, 5)
		less, _ := plainBits(signs, 7, 6)
		lead, size, from = int(own), int(less)+1, 13
	default:
		ok = false
	}
	if !ok || lead+size > 64 {
		return 0, false
	}
	d, ok := plainBits(signs, from, size)
	return p.ahead ^ d<<(64-lead-size), ok
}

// plainBits is the number of so many signs, from one of them on.
func plainBits(signs string, from, size int) (uint64, bool) {
	if len(signs) < from+size {
		return 0, false
	}
	n, err := strconv.ParseUint(signs[from:from+size], 2, 64)
	return n, err == nil
}

// plainRow is a row of points by another way: its coders, and all signs.
type plainRow struct {
	times  plainTimes
	values plainValues
	signs  string
}

// put is the row with one more point.
func (p plainRow) put(x api.Point) plainRow {
	t, times := p.times.put(x.T)
	v, values := p.values.put(x.V)
	return plainRow{times, values, p.signs + t + v}
}

// get is the row with one more point of all its signs, which are told: what they seem to tell is written again, and must be what stands there.
func (p plainRow) get(all string) (api.Point, plainRow, bool) {
	t, ok := p.times.seen(all[len(p.signs):])
	if !ok {
		return api.Point{}, p, false
	}
	time, _ := p.times.put(t)
	if !strings.HasPrefix(all, p.signs+time) {
		return api.Point{}, p, false
	}
	v, ok := p.values.seen(all[len(p.signs+time):])
	if !ok {
		return api.Point{}, p, false
	}
	x := api.Point{T: t, V: v}
	behind := p.put(x)
	if !strings.HasPrefix(all, behind.signs) {
		return api.Point{}, p, false
	}
	return x, behind, true
}

// plainSigns is the signs of points, whether or not they rise.
func plainSigns(l []api.Point) string {
	var p plainRow
	for _, x := range l {
		p = p.put(x)
	}
	return p.signs
}

// plainNum is a number's bytes.
func plainNum(n uint64) string {
	b := new(big.Int).SetUint64(n).Bytes()
	return string(append([]byte{byte(len(b))}, b...))
}

// plainGetNum is the number that bytes begin with, and what is behind it: any number up to 8 digits, if it is written again as it was.
func plainGetNum(s string) (uint64, string, api.Errno) {
	switch {
	case s == "":
		return 0, "", api.ErrShort
	case s[0] > 8:
		return 0, "", api.ErrRange
	case len(s) < 1+int(s[0]):
		return 0, "", api.ErrShort
	}
	own, rest := s[:1+int(s[0])], s[1+int(s[0]):]
	n := new(big.Int).SetBytes([]byte(own[1:])).Uint64()
	if plainNum(n) != own {
		return 0, "", api.ErrField
	}
	return n, rest, api.OK
}

// textOf is the text of signs, filled up with another sign.
func textOf(signs, fill string) string {
	var b strings.Builder
	signs += strings.Repeat(fill, (8-len(signs)%8)%8)
	for at := 0; at < len(signs); at += 8 {
		c, err := strconv.ParseUint(signs[at:at+8], 2, 8)
		if err != nil {
			panic(err)
		}
		b.WriteByte(byte(c))
	}
	return b.String()
}

// signsOf is a text's signs.
func signsOf(text string) string {
	var b strings.Builder
	for _, c := range []byte(text) {
		fmt.Fprintf(&b, "%08b", c)
	}
	return b.String()
}

// chunkOf is bytes that tell so many points, with these signs.
func chunkOf(count uint64, signs string) string {
	return plainNum(count) + plainNum(uint64(len(signs))) + textOf(signs, "0")
}

// bytesOf is the bytes of hexadecimal signs, with blanks between.
func bytesOf(signs string) string {
	b, err := hex.DecodeString(bare(signs))
	if err != nil {
		panic(err)
	}
	return string(b)
}

// bare is signs without the blanks that part them.
func bare(signs string) string { return strings.ReplaceAll(signs, " ", "") }

// plainEncode is Encode by another way.
func plainEncode(l []api.Point) (string, api.Errno) {
	if len(l) == 0 || len(l) > 64 {
		return "", api.ErrRange
	}
	times := make(map[int64]bool)
	for _, p := range l {
		times[p.T] = true
	}
	if len(times) != len(l) || !slices.IsSortedFunc(l, func(a, b api.Point) int { return big.NewInt(a.T).Cmp(big.NewInt(b.T)) }) {
		return "", api.ErrOrder
	}
	return chunkOf(uint64(len(l)), plainSigns(l)), api.OK
}

// plainDecode is Decode by another way.
func plainDecode(s string) ([]api.Point, api.Errno) {
	count, s, e := plainGetNum(s)
	if e != api.OK {
		return nil, e
	}
	if count == 0 || count > 64 {
		return nil, api.ErrRange
	}
	size, s, e := plainGetNum(s)
	if e != api.OK {
		return nil, e
	}
	own := new(big.Int).SetUint64(size)
	all := big.NewInt(8 * int64(len(s)))
	if own.Cmp(all) > 0 {
		return nil, api.ErrShort
	}
	if own.Add(own, big.NewInt(8)).Cmp(all) <= 0 {
		return nil, api.ErrMore
	}
	return plainPoints(signsOf(s)[:size], signsOf(s)[size:], int(count))
}

// plainPoints is points of their own signs, and of those that fill the last byte.
func plainPoints(own, fill string, count int) ([]api.Point, api.Errno) {
	var p plainRow
	var l []api.Point
	for len(l) < count {
		x, behind, ok := p.get(own)
		if !ok {
			return nil, api.ErrField
		}
		if len(l) > 0 && x.T <= p.times.ahead {
			return nil, api.ErrOrder
		}
		l, p = append(l, x), behind
	}
	if p.signs != own || strings.Contains(fill, "1") {
		return nil, api.ErrField
	}
	return l, api.OK
}

// mixed is a number that looks like any, the same one for the same i.
func mixed(i int) uint64 {
	x := (uint64(i) + 1) * 0x9E3779B97F4A7C15
	x = (x ^ x>>30) * 0xBF58476D1CE4E5B9
	x = (x ^ x>>27) * 0x94D049BB133111EB
	return x ^ x>>31
}

// point is a point.
func point(t int64, v uint64) api.Point { return api.Point{T: t, V: v} }

// rising is so many points from a time on, at distances above 0, and with values, that are told by their places.
func rising(count int, first int64, distance func(i int) int64, value func(i int) uint64) []api.Point {
	var l []api.Point
	at := first
	for i := range count {
		l = append(l, api.Point{T: at, V: value(i)})
		at += distance(i)
	}
	return l
}

// measured is so many points as they are measured: at distances that are nearly the same, with values near one another.
func measured(count, seed int) []api.Point {
	return rising(count, 1_700_000_000_000+int64(seed),
		func(i int) int64 { return 15_000 + int64(mixed(i+seed)%uint64([]int{1, 1, 60, 400, 4000}[i%5])) },
		func(i int) uint64 { return math.Float64bits(20 + float64(mixed(i/3+seed)%64)/8) })
}

// anyPoints is so many points with values of all kinds, at distances of all kinds; their times begin anywhere below 0.
func anyPoints(count, seed int) []api.Point {
	return rising(count, -1-int64(mixed(seed)>>1),
		func(i int) int64 { return 1 + int64(mixed(i+seed)>>(8+mixed(i+seed+900)%56)) },
		func(i int) uint64 { return mixed(i+seed+300) & mixed(i+seed+500) << (mixed(i+seed+700) % 64) })
}

// rows is points that are right: of each count, such as are measured, any, and at the ends of the types.
func rows() [][]api.Point {
	l := [][]api.Point{
		{point(100, 0)},
		{point(100, 0), point(160, 0)},
		{point(math.MinInt64, math.MaxUint64)},
		{point(math.MaxInt64, 1)},
		{point(math.MinInt64, 1), point(math.MaxInt64, 2)},
		{point(math.MinInt64, 7), point(0, 7), point(math.MaxInt64, 7)},
		{point(math.MinInt64, 0), point(math.MinInt64+1, 1), point(math.MaxInt64-1, math.MaxUint64), point(math.MaxInt64, 0)},
		{point(-1, 1<<63), point(0, 1<<63), point(1, 1)},
	}
	for count := 1; count <= 64; count++ {
		l = append(l, measured(count, 40*count), anyPoints(count, 90*count))
		l = append(l, rising(count, -20, func(int) int64 { return 1 }, func(int) uint64 { return 0 }))
		l = append(l, rising(count, math.MinInt64, func(int) int64 { return math.MaxInt64 / 32 }, func(i int) uint64 { return 1 << i }))
	}
	return l
}

// splitCounts is how many points are split: such as fill parts, and such about them.
func splitCounts() []int {
	var l []int
	for count := range 400 {
		l = append(l, count)
	}
	return append(l, 640, 1023, 1024, 1025, 100_003)
}

func wantEncode(t *testing.T, l []api.Point, s string) {
	t.Helper()
	if got, e := Encode(l); got != s || e != api.OK {
		t.Errorf("%d points, %.5d: %X, %v; want %X", len(l), l[:min(len(l), 5)], got, e, s)
	}
}

func wantNoBytes(t *testing.T, l []api.Point, want api.Errno) {
	t.Helper()
	if s, e := Encode(l); s != "" || e != want {
		t.Errorf("%d points, %.5d: %X, %v; want %v", len(l), l[:min(len(l), 5)], s, e, want)
	}
}

func wantDecode(t *testing.T, s string, l []api.Point) {
	t.Helper()
	if got, e := Decode(s); !slices.Equal(got, l) || e != api.OK {
		t.Errorf("%.60X: %d, %v; want %d", s, got, e, l)
	}
}

func wantNoPoints(t *testing.T, s string, want api.Errno, what any) {
	t.Helper()
	if l, e := Decode(s); len(l) != 0 || e != want {
		t.Errorf("%v: %.60X: %d, %v; want %v", what, s, l, e, want)
	}
}

// wantPlain decodes bytes, and holds the answer against another way; it tells the error.
func wantPlain(t *testing.T, s string) api.Errno {
	t.Helper()
	l, e := plainDecode(s)
	if e == api.OK {
		wantDecode(t, s, l)
	} else {
		wantNoPoints(t, s, e, "by another way it is an error")
	}
	return e
}

const (
	noughts = "0000000000000000000000000000000000000000000000000000000000000000"
	ones    = "1111111111111111111111111111111111111111111111111111111111111111"
	// hundred is 100 in 64 bits.
	hundred = "0000000000000000000000000000000000000000000000000000000001100100"
)

// Promise 9.1: points' bytes, written out; the first ones are the chapter's example.
func TestWritten(t *testing.T) {
	for _, x := range []struct {
		name  string
		l     []api.Point
		head  string
		signs string
	}{
		{"the example", []api.Point{point(100, 0)}, "01 01 01 80", hundred + noughts},
		{"a value, as it is", []api.Point{point(0, 0x0102030405060708)}, "01 01 01 80", noughts + "0000000100000010000000110000010000000101000001100000011100001000"},
		{"a time below 0", []api.Point{point(-1, 0)}, "01 01 01 80", ones + noughts},
		{"two points", []api.Point{point(100, 0), point(160, 0)}, "01 02 01 8A", hundred + noughts + "10 1111011" + "0"},
		{"three points: each one's time, then its value", []api.Point{point(100, 0), point(160, 0), point(220, 1)}, "01 03 01 B9", hundred + noughts + "10 1111011" + "0" + "0" + "11 11111 100000" + noughts[:32] + "1"},
		{"a window stays", []api.Point{point(100, 0), point(101, 6), point(102, 4)}, "01 03 01 D9", hundred + noughts + "10 1000000" + "11 11111 011111" + noughts[:30] + "11" + "0" + "10" + noughts[:30] + "01"},
		{"all times", []api.Point{point(math.MinInt64, 0), point(math.MaxInt64, 0)}, "01 02 01 8A", "1" + noughts[:63] + noughts + "10 0111110" + "0"},
		{"a change that is great", []api.Point{point(0, 0), point(2049, 0), point(2050, 0)}, "01 03 02 01 0A", noughts + noughts + "1111" + noughts[:52] + "100000000001" + "0" + "1111" + ones[:53] + "00000000000" + "0"},
		{"63 points at equal distances, with a value", rising(63, 100, func(int) int64 { return 60 }, func(int) uint64 { return 0 }), "01 3F 02 01 04", hundred + noughts + "10 1111011" + "0" + strings.Repeat("0", 122)},
		{"64 points at equal distances, with a value", rising(64, 100, func(int) int64 { return 60 }, func(int) uint64 { return 0 }), "01 40 02 01 06", hundred + noughts + "10 1111011" + "0" + strings.Repeat("0", 124)},
	} {
		want := bytesOf(x.head) + textOf(bare(x.signs), "0")
		wantEncode(t, x.l, want)
		wantDecode(t, want, x.l)
		if want != chunkOf(uint64(len(x.l)), bare(x.signs)) {
			t.Errorf("%s: the head %s is not that of %d signs", x.name, x.head, len(bare(x.signs)))
		}
	}
	wantEncode(t, []api.Point{point(100, 0)}, "\x01\x01\x01\x80\x00\x00\x00\x00\x00\x00\x00\x64\x00\x00\x00\x00\x00\x00\x00\x00")
}

// Promise 9.1: points of many kinds, of each count, against another way.
func TestEncodeIsPlain(t *testing.T) {
	for _, l := range rows() {
		want, e := plainEncode(l)
		if e != api.OK {
			t.Fatalf("%d: by another way %v", l, e)
		}
		wantEncode(t, l, want)
	}
}

// Promise 9.1: no point, or more than a chunk has: whether or not their times rise, and however many there are (R3, R6).
func TestEncodeCounts(t *testing.T) {
	wantNoBytes(t, nil, api.ErrRange)
	wantNoBytes(t, []api.Point{}, api.ErrRange)
	wantNoBytes(t, make([]api.Point, 0, 9), api.ErrRange)
	for _, count := range []int{65, 66, 127, 128, 129, 255, 256, 257, 321, 65536, 65537, 300_000} {
		wantNoBytes(t, measured(count, 1), api.ErrRange)
		wantNoBytes(t, make([]api.Point, count), api.ErrRange)
	}
	for count := 1; count <= 64; count++ {
		l := measured(count, count)
		if s, e := Encode(l); e != api.OK || s[:2] != "\x01"+string(rune(count)) {
			t.Errorf("%d points: %X, %v", count, s, e)
		}
		if count > 1 {
			wantNoBytes(t, make([]api.Point, count), api.ErrOrder)
		}
	}
}

// Promise 9.1: a time that is not above the one ahead, at each place.
func TestEncodeOrder(t *testing.T) {
	for _, count := range []int{2, 3, 63, 64} {
		for i := 1; i < count; i++ {
			l := measured(count, 5)
			for _, at := range []int64{l[i-1].T, l[i-1].T - 1, 0, math.MinInt64, l[i-1].T - 1<<40} {
				l[i].T = at
				wantNoBytes(t, l, api.ErrOrder)
			}
			l[i].T = l[i-1].T + 1
			if _, e := Encode(l); e != api.OK {
				t.Errorf("of %d points, point %d just above the one ahead: %v", count, i, e)
			}
		}
	}
	for _, l := range [][]api.Point{
		{point(1, 0), point(1, 0)},
		{point(1, 0), point(1, 1)},
		{point(1, 0), point(0, 0)},
		{point(0, 0), point(-1, 0)},
		{point(math.MaxInt64, 0), point(math.MinInt64, 0)},
		{point(math.MaxInt64, 0), point(math.MaxInt64, 0)},
		{point(math.MinInt64, 0), point(math.MinInt64, 0)},
		{point(math.MaxInt64-1, 0), point(math.MaxInt64, 0), point(math.MinInt64, 0)},
		{point(5, 0), point(7, 0), point(6, 0)},
		{point(5, 0), point(7, 0), point(5, 0), point(8, 0)},
		{point(7, 0), point(5, 0), point(8, 0)},
	} {
		wantNoBytes(t, l, api.ErrOrder)
	}
}

// Promise 9.1: the number of points: GetNum's errors, and each number that is none of a chunk's, whatever is behind it.
func TestDecodeCount(t *testing.T) {
	right := chunkOf(1, hundred+noughts)[2:]
	for _, x := range []struct {
		front string
		e     api.Errno
	}{
		{"", api.ErrShort},
		{"\x01", api.ErrShort},
		{"\x02\x01", api.ErrShort},
		{"\x08\x01\x01\x01\x01\x01\x01\x01", api.ErrShort},
		{"\x08", api.ErrShort},
	} {
		wantNoPoints(t, x.front, x.e, "no more than that")
	}
	for _, behind := range []string{"", right, "\x09", "\x01", "\x01\x00", "\x01\x80", right + "x", "\x00", "\x00x"} {
		wantNoPoints(t, "\x09"+behind, api.ErrRange, "nine digits")
		wantNoPoints(t, "\xff"+behind, api.ErrRange, "255 digits")
		wantNoPoints(t, "\x01\x00"+behind, api.ErrField, "a nought in front")
		wantNoPoints(t, "\x02\x00\x01"+behind, api.ErrField, "a nought in front")
		for _, count := range []uint64{0, 65, 66, 127, 128, 129, 255, 256, 257, 320, 1 << 16, 1<<16 + 1, 1 << 31, 1<<31 + 1, 1 << 32, 1<<32 + 1, 1 << 63, 1<<63 + 1, math.MaxUint64 - 63, math.MaxUint64} {
			wantNoPoints(t, plainNum(count)+behind, api.ErrRange, count)
		}
	}
	for count := uint64(1); count <= 64; count++ {
		wantNoPoints(t, plainNum(count), api.ErrShort, "no second number")
	}
}

// Promise 9.1: the number of bits: GetNum's errors, whatever is behind them.
func TestDecodeSize(t *testing.T) {
	for _, count := range []string{"\x01\x01", "\x01\x02", "\x01\x40"} {
		for _, x := range []string{"", "\x01", "\x02\x01", "\x08\x01\x01\x01\x01\x01\x01\x01", "\x08"} {
			wantNoPoints(t, count+x, api.ErrShort, "a second number that is cut off")
		}
		for _, behind := range []string{"", "x", textOf(hundred+noughts, "0")} {
			wantNoPoints(t, count+"\x09"+behind, api.ErrRange, "nine digits")
			wantNoPoints(t, count+"\xff"+behind, api.ErrRange, "255 digits")
			wantNoPoints(t, count+"\x01\x00"+behind, api.ErrField, "a nought in front")
			wantNoPoints(t, count+"\x02\x00\x80"+behind, api.ErrField, "a nought in front")
			wantNoPoints(t, count+"\x08\x00\x00\x00\x00\x00\x00\x00\x80"+behind, api.ErrField, "a nought in front")
		}
	}
}

// Promise 9.1: fewer bytes than the bits need, and more of them, whatever they hold: each number of bits behind each number of bytes.
func TestDecodeLength(t *testing.T) {
	for _, fill := range []string{"\x00", "\xff"} {
		for length := range 20 {
			for size := range 170 {
				s := plainNum(1) + plainNum(uint64(size)) + strings.Repeat(fill, length)
				switch needed := (size + 7) / 8; {
				case length < needed:
					wantNoPoints(t, s, api.ErrShort, "bytes are missing")
				case length > needed:
					wantNoPoints(t, s, api.ErrMore, "bytes are left")
				case size != 128:
					wantNoPoints(t, s, api.ErrField, "not the bits of a point")
				default:
					wantDecode(t, s, []api.Point{point(-int64(fill[0]&1), -uint64(fill[0]&1))})
				}
			}
		}
	}
}

// Promise 9.1: numbers of bits that are greater than any text has are ErrShort, also where they would wrap round when they are rounded up or reckoned in bits.
func TestDecodeGreatSize(t *testing.T) {
	for _, text := range []string{"", "\x00", "\x01\x02\x03", textOf(hundred+noughts, "0")} {
		for _, size := range []uint64{math.MaxUint64, math.MaxUint64 - 1, math.MaxUint64 - 6, math.MaxUint64 - 7, math.MaxUint64 - 8, 1 << 63, 1<<63 - 1, 1<<63 + 1, 1<<63 + 128, 1 << 61, 1<<61 + 16, 1<<61 + 128, 1 << 32, 1<<32 + 1, 1<<32 + 128, 1<<32 + 24, 1<<31 + 128, 1 << 31, 1<<16 + 128, 384, 129 + 8} {
			wantNoPoints(t, plainNum(1)+plainNum(size)+text, api.ErrShort, size)
		}
	}
}

// Promise 9.1: bytes with several faults, and what is nearly one: the first that goes wrong says it.
func TestDecodeFaults(t *testing.T) {
	one := hundred + noughts
	for _, x := range []struct {
		name  string
		count uint64
		signs string
		e     api.Errno
	}{
		{"no bits", 1, "", api.ErrField},
		{"a time alone", 1, hundred, api.ErrField},
		{"a bit of the time is missing", 1, hundred[:63], api.ErrField},
		{"a bit of the value is missing", 1, one[:127], api.ErrField},
		{"a bit 0 is left", 1, one + "0", api.ErrField},
		{"a bit 1 is left", 1, one + "1", api.ErrField},
		{"eight bits 0 are left", 1, one + "00000000", api.ErrField},
		{"a point is left", 1, one + "101111011" + "0", api.ErrField},
		{"a point that is not above is left", 1, one + "0" + "0", api.ErrField},
		{"one point of two", 2, one, api.ErrField},
		{"one point of 64", 64, one, api.ErrField},
		{"two points of three", 3, one + "101111011" + "0", api.ErrField},
		{"a further time without its value", 2, one + "101111011", api.ErrField},
		{"a head of a time alone", 2, one + "10", api.ErrField},
		{"a head of a value alone", 2, one + "101111011" + "1", api.ErrField},
		{"a time written in a second way", 2, one + "110100111011" + "0", api.ErrField},
		{"a distance that is the same, in seven bits", 3, one + "101111011" + "0" + "100111111" + "0", api.ErrField},
		{"a value without a window, as if in one", 2, one + "101111011" + "10" + ones, api.ErrField},
		{"a value that is the same, in a window", 2, one + "101111011" + "11" + "11111" + "000000" + "0", api.ErrField},
		{"a value with a lead that is too small", 2, one + "101111011" + "11" + "11110" + "100001" + noughts[:33] + "1", api.ErrField},
		{"the same time", 2, one + "0" + "0", api.ErrOrder},
		{"a time below", 2, one + "100111110" + "0", api.ErrOrder},
		{"a time far below", 2, one + "1111" + "1" + noughts[:63] + "0", api.ErrOrder},
		{"a time that wraps round", 2, "0" + ones[:63] + noughts + "101000000" + "0", api.ErrOrder},
		{"a third time that is not above", 3, one + "101111011" + "0" + "100000011" + "0", api.ErrOrder},
		{"the same time, and its value is missing", 2, one + "0", api.ErrField},
		{"the same time, and its value is none", 2, one + "0" + "10" + ones, api.ErrField},
		{"a time that is none, and would not be above", 2, one + "100111111" + "0", api.ErrField},
		{"the same time, and the next point is missing", 3, one + "0" + "0", api.ErrOrder},
		{"the same time, and the next point is none", 3, one + "0" + "0" + "100111111" + "0", api.ErrOrder},
		{"a point that is none, and the next one not above", 3, one + "100111111" + "0" + "0" + "0", api.ErrField},
		{"the same time, and bits are left", 2, one + "0" + "0" + "01", api.ErrOrder},
	} {
		s := chunkOf(x.count, x.signs)
		wantNoPoints(t, s, x.e, x.name)
		if _, e := plainDecode(s); e != x.e {
			t.Errorf("%s: %v by another way; want %v", x.name, e, x.e)
		}
		wantNoPoints(t, s+"\x00", api.ErrMore, x.name+", and a byte behind it")
	}
}

// Promise 9.1: each bit that fills the last byte is 0; a time that is not above the one ahead is told first, as its point is read ahead of them.
func TestDecodeFilling(t *testing.T) {
	for count := 2; count <= 12; count++ {
		l := rising(count, 100, func(int) int64 { return 1 }, func(int) uint64 { return 3 })
		signs := plainSigns(l)
		text := textOf(signs, "0")
		head := plainNum(uint64(count)) + plainNum(uint64(len(signs)))
		wantDecode(t, head+text, l)
		for bit := range (8 - len(signs)%8) % 8 {
			last := text[len(text)-1] | 1<<bit
			wantNoPoints(t, head+text[:len(text)-1]+string([]byte{last}), api.ErrField, fmt.Sprintf("%d points, and the bit %d that fills", count, bit))
		}
		if len(signs)%8 != 0 {
			wantNoPoints(t, head+textOf(signs, "1"), api.ErrField, "all bits that fill are 1")
		}
	}
	same := hundred + noughts + "0" + "0"
	wantNoPoints(t, plainNum(2)+plainNum(130)+textOf(same, "1"), api.ErrOrder, "the same time, and bits 1 that fill")
	wantNoPoints(t, plainNum(3)+plainNum(130)+textOf(same, "1"), api.ErrOrder, "the same time, a point missing, and bits 1 that fill")
	wantNoPoints(t, plainNum(2)+plainNum(128)+textOf(same[:128], "1"), api.ErrField, "nothing to fill, a point missing")
	wantDecode(t, plainNum(1)+plainNum(128)+textOf(noughts+ones, "0"), []api.Point{point(0, math.MaxUint64)})
}

// Promise 9.1: bytes that are cut at each place are ErrShort, with a byte behind them ErrMore.
func TestDecodeCut(t *testing.T) {
	for _, l := range rows() {
		s, _ := plainEncode(l)
		for end := range len(s) {
			wantNoPoints(t, s[:end], api.ErrShort, "cut")
		}
		for _, behind := range []string{"\x00", "\x01", "\xff", s} {
			wantNoPoints(t, s+behind, api.ErrMore, "with bytes behind it")
		}
	}
}

// Promise 9.1: bits that are cut at each place, the number of them telling so, are no points.
func TestDecodeCutBits(t *testing.T) {
	for _, l := range [][]api.Point{{point(100, 0), point(160, 0), point(220, 1)}, measured(20, 3), anyPoints(9, 4)} {
		signs := plainSigns(l)
		for end := range len(signs) {
			wantNoPoints(t, chunkOf(uint64(len(l)), signs[:end]), api.ErrField, fmt.Sprintf("%d points, %d bits of %d", len(l), end, len(signs)))
		}
	}
}

// Promise 9.1: another number of points than there are is ErrField: too few bits, or some that are left.
func TestDecodeOtherCount(t *testing.T) {
	for _, l := range rows() {
		signs := plainSigns(l)
		for count := uint64(1); count <= 64; count++ {
			if int(count) == len(l) {
				wantDecode(t, chunkOf(count, signs), l)
			} else {
				wantNoPoints(t, chunkOf(count, signs), api.ErrField, fmt.Sprintf("%d points told to be %d", len(l), count))
			}
		}
	}
}

// Promise 9.1: points whose times do not rise at a place: what is ahead of it does not hide it, nor what is behind it.
func TestDecodeOrder(t *testing.T) {
	for _, count := range []int{2, 3, 17, 64} {
		for i := 1; i < count; i++ {
			l := measured(count, 8)
			for _, at := range []int64{l[i-1].T, l[i-1].T - 1, 0, math.MinInt64, l[i-1].T - 70_000} {
				l[i].T = at
				signs := plainSigns(l)
				wantNoPoints(t, chunkOf(uint64(count), signs), api.ErrOrder, "not above the one ahead")
				wantNoPoints(t, chunkOf(uint64(count), plainSigns(l[:i+1])), api.ErrOrder, "cut behind it")
				wantNoPoints(t, chunkOf(uint64(count), plainSigns(l[:i+1])+"1"), api.ErrOrder, "spoilt behind it")
				short := plainSigns(l[:i+1])
				wantNoPoints(t, chunkOf(uint64(count), short[:len(short)-1]), api.ErrField, "cut within its value")
			}
			l[i].T = l[i-1].T + 1
			wantDecode(t, chunkOf(uint64(i+1), plainSigns(l[:i+1])), l[:i+1])
		}
	}
}

// Promise 9.1: bytes of which a bit is another, against another way; none of them are the points that they were.
func TestDecodeEachBit(t *testing.T) {
	var seen [20]int
	for _, l := range [][]api.Point{{point(100, 0)}, {point(100, 0), point(160, 0), point(220, 1)}, measured(5, 1), measured(64, 2), anyPoints(7, 3), rising(9, 0, func(int) int64 { return 60 }, func(int) uint64 { return 5 })} {
		s, _ := plainEncode(l)
		for bit := range 8 * len(s) {
			b := []byte(s)
			b[bit/8] ^= 0x80 >> (bit % 8)
			seen[wantPlain(t, string(b))]++
			if got, e := Decode(string(b)); e == api.OK && slices.Equal(got, l) {
				t.Errorf("%X and %X are the same points", s, b)
			}
		}
	}
	for _, e := range []api.Errno{api.OK, api.ErrShort, api.ErrRange, api.ErrField, api.ErrMore, api.ErrOrder} {
		if seen[e] == 0 {
			t.Errorf("no bit led to %v", e)
		}
	}
}

// likely is bytes that may be a chunk's: so many points told, of bits of which many are 0, with the right length.
func likely(seed int) string {
	signs := fmt.Sprintf("%064b%064b", mixed(seed)>>(seed%64), mixed(seed+1)>>(seed%7*9))
	count := 1
	for count < 1+seed%5 {
		count++
		c := mixed(seed + 10*count)
		signs += fmt.Sprintf("10%07b", c>>8%128) + []string{"0", "0", "", "1", fmt.Sprintf("11%05b%06b%014b", c%32, 13, c>>20%16384)}[c>>40%5]
	}
	return chunkOf(uint64(count), signs)
}

// Promise 9.1: any bytes, and such as are nearly a chunk's, against another way.
func TestDecodeIsPlain(t *testing.T) {
	var seen [20]int
	for i := range 30_000 {
		seen[wantPlain(t, likely(i))]++
		var b []byte
		for j := range i % 40 {
			b = append(b, byte(mixed(i*40+j)>>(mixed(i+j)%8)))
		}
		wantPlain(t, string(b))
		wantPlain(t, plainNum(uint64(i%70))+plainNum(uint64(8*len(b)))+string(b))
	}
	for _, e := range []api.Errno{api.OK, api.ErrField, api.ErrOrder} {
		if seen[e] < 300 {
			t.Errorf("%v was told %d times alone", e, seen[e])
		}
	}
}

// Promise 9.1: all bytes of up to two, against another way.
func TestDecodeAllShort(t *testing.T) {
	for n := range 1 << 16 {
		wantPlain(t, string([]byte{byte(n >> 8), byte(n)}))
		wantPlain(t, string([]byte{1, 1, byte(n >> 8), byte(n)}))
	}
	for n := range 1 << 8 {
		wantPlain(t, string([]byte{byte(n)}))
	}
}

// Promise 9.1: bytes that are longer than any chunk's are gone through as the chapter says (R6).
func TestDecodeLong(t *testing.T) {
	const length = 1 << 20
	one := textOf(hundred+noughts, "0")
	for _, x := range []struct {
		count, size uint64
		behind      string
		e           api.Errno
	}{
		{1, 8 * length, strings.Repeat("\x00", length-16), api.ErrField},
		{1, 8*length - 7, strings.Repeat("\x00", length-16), api.ErrField},
		{1, 8*length - 8, strings.Repeat("\x00", length-16), api.ErrMore},
		{1, 8*length + 1, strings.Repeat("\x00", length-16), api.ErrShort},
		{1, 128, strings.Repeat("\x00", length-16), api.ErrMore},
		{2, 8 * length, strings.Repeat("\x00", length-16), api.ErrOrder},
		{64, 8 * length, strings.Repeat("\xff", length-16), api.ErrField},
		{2, 8 * length, textOf("101111011"+"0", "0") + strings.Repeat("\x00", length-18), api.ErrField},
		{64, 8 * length, textOf("101111011"+"0", "0") + strings.Repeat("\x00", length-18), api.ErrField},
	} {
		wantNoPoints(t, plainNum(x.count)+plainNum(x.size)+one+x.behind, x.e, x.count)
	}
}

// Promise 9.1: points that are handed in are not changed, what lies behind their end neither; those that are handed out are not kept (R4).
func TestApart(t *testing.T) {
	room := measured(64, 6)
	all := slices.Clone(room)
	for end := range len(room) + 1 {
		Encode(room[:end])
	}
	room[40].T = 0
	Encode(room)
	room[40].T = all[40].T
	if !slices.Equal(room, all) {
		t.Error("Encode has changed points")
	}
	s, _ := plainEncode(all)
	a, _ := Decode(s)
	b, _ := Decode(s)
	clear(a)
	_ = append(a[:10], a[:20]...)
	if !slices.Equal(b, all) {
		t.Error("two answers of Decode share memory")
	}
	wantDecode(t, s, all)
}

// plainSplit is Split by another way: each point by its place.
func plainSplit(l []api.Point) [][]api.Point {
	parts := make([][]api.Point, (len(l)+63)/64)
	for i, p := range l {
		parts[i/64] = append(parts[i/64], p)
	}
	return parts
}

func wantParts(t *testing.T, got, want [][]api.Point) {
	t.Helper()
	if !slices.EqualFunc(got, want, slices.Equal[[]api.Point]) {
		t.Errorf("%d parts, want %d; the first ones: %d, want %d", len(got), len(want), got[:min(len(got), 2)], want[:min(len(want), 2)])
	}
}

// Promise 9.2: parts, written out by how many points each has.
func TestSplitWritten(t *testing.T) {
	for _, x := range []struct {
		count int
		sizes []int
	}{
		{0, nil},
		{1, []int{1}},
		{2, []int{2}},
		{63, []int{63}},
		{64, []int{64}},
		{65, []int{64, 1}},
		{127, []int{64, 63}},
		{128, []int{64, 64}},
		{129, []int{64, 64, 1}},
		{130, []int{64, 64, 2}},
		{192, []int{64, 64, 64}},
		{255, []int{64, 64, 64, 63}},
		{256, []int{64, 64, 64, 64}},
		{257, []int{64, 64, 64, 64, 1}},
	} {
		var sizes []int
		for _, part := range Split(make([]api.Point, x.count)) {
			sizes = append(sizes, len(part))
		}
		if !slices.Equal(sizes, x.sizes) {
			t.Errorf("%d points: parts of %d; want %d", x.count, sizes, x.sizes)
		}
	}
	for _, l := range [][]api.Point{nil, {}, make([]api.Point, 0, 200), make([]api.Point, 200)[:0]} {
		if parts := Split(l); len(parts) != 0 {
			t.Errorf("of no points: %d", parts)
		}
	}
}

// Promise 9.2: any number of points, in their order, against another way: those that rise, and any others (R6).
func TestSplitIsPlain(t *testing.T) {
	for _, count := range splitCounts() {
		l := measured(count, count)
		wantParts(t, Split(l), plainSplit(l))
		slices.Reverse(l)
		wantParts(t, Split(l), plainSplit(l))
		for i := range l {
			l[i] = api.Point{T: int64(mixed(i)), V: mixed(i + count)}
		}
		wantParts(t, Split(l), plainSplit(l))
	}
}

// Promise 9.2: parts of points whose times rise may be encoded, each of them, and are the points when they are put behind one another.
func TestSplitAndEncode(t *testing.T) {
	for _, count := range []int{1, 64, 65, 128, 130, 1000} {
		l := anyPoints(count, count)
		var again []api.Point
		for _, part := range Split(l) {
			s, e := Encode(part)
			if e != api.OK {
				t.Fatalf("a part of %d points: %v", len(part), e)
			}
			points, e := Decode(s)
			if e != api.OK {
				t.Fatalf("%X: %v", s, e)
			}
			again = append(again, points...)
		}
		if !slices.Equal(again, l) {
			t.Errorf("%d points: others behind Split, Encode and Decode", count)
		}
	}
}

// Promise 9.2 and the chapter's way: what is put behind a part stands neither in the next one, nor in the points that were handed in, nor in another answer.
func TestPartsApart(t *testing.T) {
	other := api.Point{T: -7, V: 7}
	for _, count := range splitCounts()[:300] {
		room := measured(count+100, 9)
		whole := slices.Clone(room)
		l := room[:count]
		want := plainSplit(l)
		parts, more := Split(l), Split(l)
		for i, part := range parts {
			grown := append(part, other, other)
			grown[0] = other
			_ = append(part[:0:0], other)
			wantParts(t, parts, want)
			if cap(part) != len(part) {
				t.Errorf("%d points: the part %d of %d has room for %d", count, i, len(part), cap(part))
			}
		}
		_ = append(parts, []api.Point{other})
		for _, part := range parts {
			for i := range part {
				part[i] = other
			}
		}
		if !slices.Equal(room, whole) {
			t.Fatalf("%d points: those that were handed in are changed", count)
		}
		wantParts(t, more, want)
		clear(l)
		wantParts(t, more, want)
	}
}

// Promise 9.2: each part is apart from the others: one that is overwritten whole leaves the others as they were.
func TestPartsOverwritten(t *testing.T) {
	l := measured(300, 2)
	for i := range plainSplit(l) {
		parts, want := Split(l), plainSplit(l)
		clear(parts[i][:cap(parts[i])])
		clear(want[i])
		wantParts(t, parts, want)
	}
}

// Promise 9.3: Decode of Encode is the points.
func TestDecodeOfEncode(t *testing.T) {
	for _, l := range rows() {
		s, e := Encode(l)
		if e != api.OK {
			t.Fatalf("%d: %v", l, e)
		}
		wantDecode(t, s, l)
	}
	edges := []int64{math.MinInt64, math.MinInt64 + 1, -1 << 32, -2049, -2048, -256, -64, -63, -1, 0, 1, 64, 65, 256, 257, 2048, 2049, 1 << 32, math.MaxInt64 - 1, math.MaxInt64}
	for i := range edges {
		for j := range i {
			for k := range j {
				l := []api.Point{point(edges[k], mixed(i)), point(edges[j], 1<<j), point(edges[i], uint64(k))}
				s, _ := Encode(l)
				wantDecode(t, s, l)
			}
		}
	}
}

// Promise 9.3: Encode of Decode is the bytes: whatever is decoded is encoded again as it was.
func TestEncodeOfDecode(t *testing.T) {
	decoded := 0
	for i := range 100_000 {
		s := likely(i)
		l, e := Decode(s)
		if e != api.OK {
			continue
		}
		decoded++
		wantEncode(t, l, s)
	}
	if decoded < 1000 {
		t.Errorf("%d alone were decoded", decoded)
	}
}

// Promise 9.3: points that differ have other bytes.
func TestBytesDiffer(t *testing.T) {
	seen := make(map[string]string)
	for _, l := range append(rows(), []api.Point{point(100, 1)}, []api.Point{point(101, 0)}, []api.Point{point(100, 0), point(161, 0)}, []api.Point{point(100, 0), point(160, 1)}, []api.Point{point(100, 0), point(160, 0), point(220, 0)}) {
		s, _ := Encode(l)
		if tells := fmt.Sprint(l); seen[s] != "" && seen[s] != tells {
			t.Errorf("%s and %s have the same bytes", seen[s], tells)
		} else {
			seen[s] = tells
		}
	}
}

// FuzzChunk: any bytes against another way, and encoded again as they were; any points encoded against another way, split, and decoded again.
func FuzzChunk(f *testing.F) {
	for _, l := range [][]api.Point{{point(100, 0)}, {point(100, 0), point(160, 0), point(220, 1)}, measured(9, 1), anyPoints(5, 2)} {
		s, _ := plainEncode(l)
		f.Add(s)
	}
	f.Add(chunkOf(2, hundred+noughts+"00"))
	f.Fuzz(func(t *testing.T, s string) {
		if wantPlain(t, s) == api.OK {
			l, _ := Decode(s)
			wantEncode(t, l, s)
		}
		if len(s) > 0 {
			wantPlain(t, plainNum(uint64(s[0]))+plainNum(8*uint64(len(s)-1))+s[1:])
		}
		var l []api.Point
		at := int64(len(s)) - 3
		for i, b := range []byte(s) {
			at += int64(int8(b)+120) << (mixed(i+int(b)) % 50)
			l = append(l, api.Point{T: at, V: uint64(b) << (mixed(i) % 64)})
		}
		wantParts(t, Split(l), plainSplit(l))
		want, e := plainEncode(l)
		if e != api.OK {
			wantNoBytes(t, l, e)
			return
		}
		wantEncode(t, l, want)
		wantDecode(t, want, l)
	})
}

// Points are split into parts that a chunk may have, encoded, and decoded again.
func Example() {
	var l []api.Point
	for i := range 65 {
		l = append(l, api.Point{T: 100 + 60*int64(i)})
	}
	for _, part := range Split(l) {
		s, e := Encode(part)
		again, d := Decode(s)
		fmt.Println(len(part), len(s), e == api.OK, d == api.OK, again[0])
	}
	fmt.Println(Encode(l))
	fmt.Println(Decode("\x01\x01"))
	// Output:
	// 64 38 true true {100 0}
	// 1 20 true true {3940 0}
	//  error 2
	// [] error 1
}
