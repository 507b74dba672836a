package label

import (
	"cmp"
	"fmt"
	"math"
	"math/big"
	"regexp"
	"slices"
	"strings"
	"testing"

	"barograph/api"
)

// plainText is labels, each name and value as one text; so they are told apart by another way.
func plainText(l []api.Pair) string { return fmt.Sprintf("%q", l) }

// plainNum is a number's bytes.
func plainNum(n uint64) string {
	b := new(big.Int).SetUint64(n).Bytes()
	return string(append([]byte{byte(len(b))}, b...))
}

// text is a text's bytes.
func text(s string) string { return plainNum(uint64(len(s))) + s }

// labelsOf is bytes that tell so many pairs, with these texts.
func labelsOf(count uint64, texts ...string) string {
	s := plainNum(count)
	for _, x := range texts {
		s += text(x)
	}
	return s
}

// plainBytes is the bytes of pairs, whether or not they are labels.
func plainBytes(l []api.Pair) string { return labelsOf(uint64(len(l)), flat(l)...) }

// flat is the names and values of pairs, in a row.
func flat(l []api.Pair) []string {
	var texts []string
	for _, p := range l {
		texts = append(texts, p.Name, p.Value)
	}
	return texts
}

var (
	plainName  = regexp.MustCompile(`\A[_abcdefghijklmnopqrstuvwxyz]{1,32}\z`)
	plainValue = regexp.MustCompile(`\A[\x20-\x7E]{1,64}\z`)
)

// plainCheck is Check by another way.
func plainCheck(l []api.Pair) api.Errno {
	if len(l) == 0 || len(l) > 8 {
		return api.ErrLabel
	}
	var names []string
	for _, p := range l {
		if !plainName.MatchString(p.Name) || !plainValue.MatchString(p.Value) {
			return api.ErrLabel
		}
		names = append(names, p.Name)
	}
	rising := slices.Clone(names)
	slices.Sort(rising)
	if !slices.Equal(slices.Compact(rising), names) {
		return api.ErrLabel
	}
	return api.OK
}

// plainGetNum is the number that bytes begin with, and what is behind it: any number up to 8 digits, if it is written again as it was.
func plainGetNum(s string) (uint64, string, api.Errno) {
	switch {
	case s == "":
		return 0, "", api.ErrShort
	case s[0] > 8:
		return 0, "", api.ErrRange
	case len(s) < 1+int(s[0]):
		return 0, "", api.ErrShort
	}
	own, rest := s[:1+int(s[0])], s[1+int(s[0]):]
	n := new(big.Int).SetBytes([]byte(own[1:])).Uint64()
	if plainNum(n) != own {
		return 0, "", api.ErrField
	}
	return n, rest, api.OK
}

// plainDecode is Decode by another way: all texts in a row, the names' limit and the values' by turns.
func plainDecode(s string) ([]api.Pair, api.Errno) {
	count, rest, e := plainGetNum(s)
	if e != api.OK {
		return nil, e
	}
	if !slices.Contains([]uint64{1, 2, 3, 4, 5, 6, 7, 8}, count) {
		return nil, api.ErrLabel
	}
	var texts []string
	for i := range 2 * count {
		var size uint64
		if size, rest, e = plainGetNum(rest); e != api.OK {
			return nil, e
		}
		if size > []uint64{32, 64}[i%2] {
			return nil, api.ErrLong
		}
		if size > uint64(len(rest)) {
			return nil, api.ErrShort
		}
		texts, rest = append(texts, rest[:size]), rest[size:]
	}
	if rest != "" {
		return nil, api.ErrMore
	}
	l := labels(texts...)
	if e := plainCheck(l); e != api.OK {
		return nil, e
	}
	return l, api.OK
}

// plainCompare is Compare by another way: the names and values in a row.
func plainCompare(a, b []api.Pair) int { return slices.Compare(flat(a), flat(b)) }

// plainGet is Get by another way: pairs from the last one on, each in the place of one behind it.
func plainGet(l []api.Pair, name string) string {
	values := make(map[string]string)
	for _, p := range slices.Backward(l) {
		values[p.Name] = p.Value
	}
	return values[name]
}

// mixed is a number that looks like any, the same one for the same i.
func mixed(i int) uint64 {
	x := (uint64(i) + 1) * 0x9E3779B97F4A7C15
	x = (x ^ x>>30) * 0xBF58476D1CE4E5B9
	x = (x ^ x>>27) * 0x94D049BB133111EB
	return x ^ x>>31
}

// labels is pairs of names and values that stand by turns.
func labels(texts ...string) []api.Pair {
	var l []api.Pair
	for i := 0; i+1 < len(texts); i += 2 {
		l = append(l, api.Pair{Name: texts[i], Value: texts[i+1]})
	}
	return l
}

const (
	nameSigns = "_abcdefghijklmnopqrstuvwxyz"
	// full is as many signs as a value may have.
	full = "0123456789012345678901234567890123456789012345678901234567890123"
	// long is as many signs as a name may have.
	long = "abcdefghijklmnopqrstuvwxyz_abcde"
)

// valueSigns is all signs that a value may have.
func valueSigns() string {
	var b []byte
	for c := 0x20; c <= 0x7E; c++ {
		b = append(b, byte(c))
	}
	return string(b)
}

// anyName is a name of so many signs.
func anyName(size, seed int) string {
	var b []byte
	for i := range size {
		b = append(b, nameSigns[mixed(i+seed)%27])
	}
	return string(b)
}

// anyValue is a value of so many signs.
func anyValue(size, seed int) string {
	var b []byte
	for i := range size {
		b = append(b, byte(0x20+mixed(i+seed)%95))
	}
	return string(b)
}

// anyLabels is up to so many labels: their names are sorted, and each one stands once.
func anyLabels(count, seed int) []api.Pair {
	var l []api.Pair
	for i := range count {
		c := mixed(seed + 1000*i)
		l = append(l, api.Pair{Name: anyName(1+int(c%32), int(c>>8%3000)), Value: anyValue(1+int(c>>20%64), int(c>>30%3000))})
	}
	slices.SortFunc(l, func(a, b api.Pair) int { return cmp.Compare(a.Name, b.Name) })
	return slices.CompactFunc(l, func(a, b api.Pair) bool { return a.Name == b.Name })
}

// row is so many labels with short names, which rise.
func row(count int) []api.Pair {
	var l []api.Pair
	for i := range count {
		l = append(l, api.Pair{Name: fmt.Sprintf("%c%c", 'a'+i/26, 'a'+i%26), Value: fmt.Sprint(i)})
	}
	return l
}

// letters is eight labels whose names are a letter each.
func letters() []api.Pair {
	return labels("a", "1", "b", "2", "c", "3", "d", "4", "e", "5", "f", "6", "g", "7", "h", "8")
}

// great is so many labels with the longest names and values.
func great(count int) []api.Pair {
	var l []api.Pair
	for i := range count {
		l = append(l, api.Pair{Name: long[:31] + string(nameSigns[i]), Value: full})
	}
	return l
}

// many is labels that are right: of each count, such as are used, any, and at the limits.
func many() [][]api.Pair {
	l := [][]api.Pair{
		labels("a", "1"),
		labels("a", "1", "b", "2"),
		labels("a", "1", "c", "2"),
		labels("a", "12"),
		labels("a", "1", "b", "1"),
		labels("ab", "1"),
		labels("a", "2"),
		labels("_", " "),
		labels("_", "~", "__", "~~", "_a", "_", "a", "_", "a_", "b", "aa", "1", "b", "2", "z", "z"),
		labels("instance", "127.0.0.1:9090", "job", "node", "name", `up{x="y"}`),
		labels(long, full),
		labels("a", valueSigns()[:64]),
		labels("a", valueSigns()[31:]),
	}
	for count := 1; count <= 8; count++ {
		l = append(l, row(count), great(count))
		for seed := range 40 {
			l = append(l, anyLabels(count, 50*count+seed))
		}
	}
	for size := 1; size <= 64; size++ {
		l = append(l, labels(anyName(1+size%32, size), anyValue(size, 2*size)))
	}
	return l
}

// wrong is pairs that are no labels, of each kind of fault.
func wrong() [][]api.Pair {
	return [][]api.Pair{
		nil,
		{},
		{{}},
		labels("A", "1"),
		labels("", "1"),
		labels("a", ""),
		labels("b", "2", "a", "1"),
		labels("a", "1", "a", "1"),
		labels("a", "1", "a", "2"),
		labels("a", "2", "a", "1"),
		labels("aa", "1", "a", "1"),
		labels("a", "1", "_", "1"),
		labels("a", "1", "c", "1", "b", "1"),
		labels("a", "1", "b", "1", "a", "1"),
		labels("a", "1", "b", "1", "b", "1", "c", "1"),
		labels("a", "1", "", "1"),
		labels("a", "1", "b", ""),
		labels(long+"f", "1"),
		labels("a", full+"4"),
		labels(long, full, long, full),
		labels("a1", "1"),
		labels("1a", "1"),
		labels("a-b", "1"),
		labels("a b", "1"),
		labels("á", "1"),
		labels("a", "á"),
		labels("a", "\x00"),
		labels("a", "\n"),
		labels("a", "1\n"),
		labels("a\n", "1"),
		labels("a", "\x7F"),
		labels("a", "\x80"),
		labels("a", "\xFF"),
		row(9),
		row(10),
		great(9),
	}
}

// brief is pairs as they are told beside a fault: those ahead, and how many there are.
func brief(l []api.Pair) string { return fmt.Sprintf("%d pairs, %.70q", len(l), l[:min(len(l), 9)]) }

func wantCheck(t *testing.T, l []api.Pair, want api.Errno) {
	t.Helper()
	if e := Check(l); e != want {
		t.Errorf("Check of %s: %v; want %v", brief(l), e, want)
	}
	if want != api.OK {
		wantNoBytes(t, l, want)
	}
}

func wantEncode(t *testing.T, l []api.Pair, s string) {
	t.Helper()
	if got, e := Encode(l); got != s || e != api.OK {
		t.Errorf("%q: %X, %v; want %X", l, got, e, s)
	}
}

func wantNoBytes(t *testing.T, l []api.Pair, want api.Errno) {
	t.Helper()
	if s, e := Encode(l); s != "" || e != want {
		t.Errorf("Encode of %s: %X, %v; want %v", brief(l), s, e, want)
	}
}

func wantDecode(t *testing.T, s string, l []api.Pair) {
	t.Helper()
	if got, e := Decode(s); !slices.Equal(got, l) || e != api.OK {
		t.Errorf("%.200X: %q, %v; want %q", s, got, e, l)
	}
}

func wantNoLabels(t *testing.T, s string, want api.Errno, what any) {
	t.Helper()
	if l, e := Decode(s); len(l) != 0 || e != want {
		t.Errorf("%v: %.200X: %q, %v; want %v", what, s, l, e, want)
	}
}

// wantPlain decodes bytes, and holds the answer against another way; it tells the error.
func wantPlain(t *testing.T, s string) api.Errno {
	t.Helper()
	l, e := plainDecode(s)
	if e == api.OK {
		wantDecode(t, s, l)
	} else {
		wantNoLabels(t, s, e, "by another way it is an error")
	}
	return e
}

func wantCompare(t *testing.T, a, b []api.Pair, want int) {
	t.Helper()
	if n := Compare(a, b); n != want {
		t.Errorf("Compare of %s and %s: %d; want %d", brief(a), brief(b), n, want)
	}
	if n := Compare(b, a); n != -want {
		t.Errorf("Compare of %s and %s: %d; want %d", brief(b), brief(a), n, -want)
	}
}

func wantGet(t *testing.T, l []api.Pair, name, want string) {
	t.Helper()
	if v := Get(l, name); v != want {
		t.Errorf("Get of %s, %.80q: %.80q; want %.80q", brief(l), name, v, want)
	}
}

// Promise 10.1: labels' bytes, written out; the first ones are the chapter's example.
func TestWritten(t *testing.T) {
	for _, x := range []struct {
		l []api.Pair
		s string
	}{
		{labels("a", "1", "b", "2"), "\x01\x02\x01\x01\x61\x01\x01\x31\x01\x01\x62\x01\x01\x32"},
		{labels("a", "1"), "\x01\x01\x01\x01a\x01\x011"},
		{labels("_", "~"), "\x01\x01\x01\x01_\x01\x01~"},
		{labels("a", " "), "\x01\x01\x01\x01a\x01\x01 "},
		{labels("job", "node 7", "zone", "eu"), "\x01\x02\x01\x03job\x01\x06node 7\x01\x04zone\x01\x02eu"},
		{labels(long, full), "\x01\x01\x01\x20" + long + "\x01\x40" + full},
		{labels("a", "1", "b", "1", "c", "1", "d", "1", "e", "1", "f", "1", "g", "1", "h", "1"), "\x01\x08\x01\x01a\x01\x011\x01\x01b\x01\x011\x01\x01c\x01\x011\x01\x01d\x01\x011\x01\x01e\x01\x011\x01\x01f\x01\x011\x01\x01g\x01\x011\x01\x01h\x01\x011"},
	} {
		wantCheck(t, x.l, api.OK)
		wantEncode(t, x.l, x.s)
		wantDecode(t, x.s, x.l)
	}
}

// Promise 10.1: labels of many kinds, against another way.
func TestRightIsPlain(t *testing.T) {
	for _, l := range many() {
		if e := plainCheck(l); e != api.OK {
			t.Fatalf("%q: by another way %v", l, e)
		}
		wantCheck(t, l, api.OK)
		wantEncode(t, l, plainBytes(l))
		wantDecode(t, plainBytes(l), l)
	}
}

// Promise 10.1: pairs that are no labels are ErrLabel, and so are their bytes, if there may be so many and so long ones.
func TestWrong(t *testing.T) {
	for _, l := range wrong() {
		if e := plainCheck(l); e != api.ErrLabel {
			t.Fatalf("%q: by another way %v", l, e)
		}
		wantCheck(t, l, api.ErrLabel)
		wantPlain(t, plainBytes(l))
	}
}

// Promise 10.1: 1 to 8 labels, no more, also of a great many (R6).
func TestCheckCounts(t *testing.T) {
	for count := range 300 {
		want := api.ErrLabel
		if count >= 1 && count <= 8 {
			want = api.OK
		}
		wantCheck(t, row(count), want)
	}
	for _, count := range []int{257, 264, 65537, 65544, 1 << 20} {
		wantCheck(t, make([]api.Pair, count), api.ErrLabel)
		wantCheck(t, append(row(8), make([]api.Pair, count-8)...), api.ErrLabel)
	}
}

// Promise 10.1: each byte as a name, and at each place of a name; alike of a value.
func TestCheckSigns(t *testing.T) {
	for c := range 256 {
		sign := string([]byte{byte(c)})
		name, value := api.ErrLabel, api.ErrLabel
		if strings.Contains(nameSigns, sign) {
			name = api.OK
		}
		if c >= 0x20 && c <= 0x7E {
			value = api.OK
		}
		for size := range 32 {
			for _, at := range []int{0, size / 2, size} {
				x := anyName(at, c) + sign + anyName(size-at, c+1)
				wantCheck(t, labels(x, "1"), name)
				wantDecodeText(t, labels(x, "1"), name)
			}
		}
		for size := range 64 {
			for _, at := range []int{0, size / 2, size} {
				x := anyValue(at, c) + sign + anyValue(size-at, c+1)
				wantCheck(t, labels("a", x), value)
				wantDecodeText(t, labels("a", x), value)
			}
		}
	}
}

// wantDecodeText decodes the bytes of pairs, and they are as Check says.
func wantDecodeText(t *testing.T, l []api.Pair, want api.Errno) {
	t.Helper()
	if want == api.OK {
		wantDecode(t, plainBytes(l), l)
	} else {
		wantNoLabels(t, plainBytes(l), want, "a sign")
	}
}

// Promise 10.1: signs of several bytes, whole or cut, are none of a name's or a value's, also those whose number ends as such a sign's does.
func TestCheckWideSigns(t *testing.T) {
	wide := []string{"\u0080", "\u00FF", "\u0161", "\u0141", "\u015F", "\u0120", "\u017E", "\u2020", "\u0416", "\u4E61", "\uFFFD", "\uFF41", "\U0001F061", "\U00010061", "\U0010FFFF",
		"\xC0\xA0", "\xC1\xA1", "\xE0\x81\xA1", "\xED\xA0\x80", "\xF0\x80\x81\xA1", "\xC2", "\xE2\x80", "\xF0\x9F\x98", "\xFE", "\xFF\xFF"}
	for _, x := range wide {
		for _, s := range []string{x, "a" + x, x + "a", "a" + x + "b", x + x} {
			wantCheck(t, labels(s, "1"), api.ErrLabel)
			wantCheck(t, labels("a", s), api.ErrLabel)
			wantNoLabels(t, labelsOf(1, s, "1"), api.ErrLabel, s)
			wantNoLabels(t, labelsOf(1, "a", s), api.ErrLabel, s)
		}
	}
	wantCheck(t, labels(strings.Repeat("š", 16), "1"), api.ErrLabel)
	wantCheck(t, labels("a", strings.Repeat("š", 32)), api.ErrLabel)
}

// Promise 10.1: each length of a name and of a value, at each place of the labels; also lengths that are far beyond the limits (R6).
func TestCheckLengths(t *testing.T) {
	lengths := []int{255, 256, 257, 288, 320, 65535, 65536, 65537, 65568, 65600, 1 << 20}
	for size := range 140 {
		lengths = append(lengths, size)
	}
	for _, size := range lengths {
		name, value := api.ErrLabel, api.ErrLabel
		if size >= 1 && size <= 32 {
			name = api.OK
		}
		if size >= 1 && size <= 64 {
			value = api.OK
		}
		for _, sign := range []string{"a", "_", "z"} {
			wantCheck(t, labels(strings.Repeat(sign, size), "1"), name)
		}
		for _, sign := range []string{" ", "a", "~"} {
			wantCheck(t, labels("a", strings.Repeat(sign, size)), value)
		}
		for at := range 8 {
			l := letters()
			l[at].Name = strings.Repeat(l[at].Name, size)
			wantCheck(t, l, name)
			l = letters()
			l[at].Value = strings.Repeat("x", size)
			wantCheck(t, l, value)
		}
	}
}

// Promise 10.1: names rise strictly, byte by byte; whatever the values are, and wherever the two names stand that do not.
func TestCheckOrder(t *testing.T) {
	names := []string{"_", "__", "_a", "a", "a_", "aa", "ab", "az", "b", "ba", "y", "z", "z_", "zz", long[:31], long, long[:31] + "z"}
	for _, a := range names {
		for _, b := range names {
			want := api.ErrLabel
			if a < b {
				want = api.OK
			}
			for _, v := range []string{"1", "2", " ", "~"} {
				wantCheck(t, labels(a, "1", b, v), want)
				wantPlain(t, labelsOf(2, a, "1", b, v))
			}
		}
	}
	for i := range 8 {
		for j := range 8 {
			l := row(8)
			l[i].Name, l[j].Name = l[j].Name, l[i].Name
			want := api.OK
			if i != j {
				want = api.ErrLabel
			}
			wantCheck(t, l, want)
			wantDecodeText(t, l, want)
			l = row(8)
			l[i].Name = l[j].Name
			wantCheck(t, l, want)
			wantDecodeText(t, l, want)
		}
	}
}

// Promise 10.1: all orders of four names: one of them is right.
func TestCheckAllOrders(t *testing.T) {
	names, right := []string{"_", "a", "aa", "b"}, 0
	for i := range 256 {
		var l []api.Pair
		for shift := 0; shift < 8; shift += 2 {
			l = append(l, api.Pair{Name: names[i>>shift&3], Value: "1"})
		}
		want := plainCheck(l)
		wantCheck(t, l, want)
		if want == api.OK {
			right++
		}
	}
	if right != 1 {
		t.Errorf("%d orders are right", right)
	}
}

// Promise 10.1: a fault at each place alone.
func TestCheckEachPlace(t *testing.T) {
	for count := 1; count <= 8; count++ {
		for at := range count {
			for _, fault := range []func(p *api.Pair){
				func(p *api.Pair) { p.Name = "" },
				func(p *api.Pair) { p.Name += "A" },
				func(p *api.Pair) { p.Name += "\xFF" },
				func(p *api.Pair) { p.Name += strings.Repeat("a", 31) },
				func(p *api.Pair) { p.Value = "" },
				func(p *api.Pair) { p.Value += "\x1F" },
				func(p *api.Pair) { p.Value += "\x7F" },
				func(p *api.Pair) { p.Value = full + "x" },
			} {
				l := row(count)
				fault(&l[at])
				wantCheck(t, l, api.ErrLabel)
				wantPlain(t, plainBytes(l))
			}
		}
	}
}

// Promise 10.1: each error of the number of labels; a number that is not from 1 to 8 is ErrLabel, whatever is behind it.
func TestDecodeCount(t *testing.T) {
	wantNoLabels(t, "", api.ErrShort, "nothing")
	for c := 9; c < 256; c++ {
		wantNoLabels(t, string([]byte{byte(c)})+"\x01\x01a\x01\x011", api.ErrRange, c)
	}
	for digits := 1; digits <= 8; digits++ {
		head := string([]byte{byte(digits)})
		for fewer := range digits {
			wantNoLabels(t, head+strings.Repeat("\x01", fewer), api.ErrShort, "digits are missing")
		}
		wantNoLabels(t, head+strings.Repeat("\x00", digits), api.ErrField, "a nought in front")
		if digits > 1 {
			wantNoLabels(t, head+strings.Repeat("\x00", digits-1)+"\x01\x01\x01a\x01\x011", api.ErrField, "noughts in front of 1")
		}
	}
	counts := []uint64{0, 9, 10, 16, 32, 255, 256, 257, 264, 1 << 16, 1<<16 + 1, 1<<32 + 1, 1<<32 + 8, 1 << 62, 1<<63 + 1, math.MaxUint64 - 7, math.MaxUint64}
	for _, count := range counts {
		for _, behind := range []string{"", "\x00", "\x09", "\x01", "\x01\x21", "\x01\x01a\x01\x011", "\x01\x00"} {
			wantNoLabels(t, plainNum(count)+behind, api.ErrLabel, count)
		}
		wantNoLabels(t, labelsOf(count, flat(row(9))...), api.ErrLabel, count)
		wantNoLabels(t, labelsOf(count, flat(row(1))...), api.ErrLabel, count)
	}
}

// Promise 10.1: another number of labels than there are is ErrShort, or ErrMore.
func TestDecodeOtherCount(t *testing.T) {
	for _, l := range many() {
		for count := 1; count <= 8; count++ {
			s := labelsOf(uint64(count), flat(l)...)
			switch {
			case count < len(l):
				wantNoLabels(t, s, api.ErrMore, count)
			case count > len(l):
				wantNoLabels(t, s, api.ErrShort, count)
			}
		}
	}
}

// textFault is bytes that are no text, with the error at a name's place and at a value's.
type textFault struct {
	s           string
	name, value api.Errno
}

// textFaults is one of each kind, and of some several.
func textFaults() []textFault {
	return []textFault{
		{"", api.ErrShort, api.ErrShort},
		{"\x09", api.ErrRange, api.ErrRange},
		{"\xFF", api.ErrRange, api.ErrRange},
		{"\x09123456789", api.ErrRange, api.ErrRange},
		{"\x01", api.ErrShort, api.ErrShort},
		{"\x02\x01", api.ErrShort, api.ErrShort},
		{"\x02\x00", api.ErrShort, api.ErrShort},
		{"\x08\x01\x01\x01\x01\x01\x01\x01", api.ErrShort, api.ErrShort},
		{"\x01\x00", api.ErrField, api.ErrField},
		{"\x02\x00\x01a", api.ErrField, api.ErrField},
		{"\x08\x00\x00\x00\x00\x00\x00\x00\x01a", api.ErrField, api.ErrField},
		{"\x01\x21", api.ErrLong, api.ErrShort},
		{"\x01\x21" + long, api.ErrLong, api.ErrShort},
		{"\x01\x40" + full[:63], api.ErrLong, api.ErrShort},
		{"\x01\x41", api.ErrLong, api.ErrLong},
		{"\x01\x41" + full + "4", api.ErrLong, api.ErrLong},
		{"\x01\xFF", api.ErrLong, api.ErrLong},
		{"\x02\x01\x00", api.ErrLong, api.ErrLong},
		{"\x02\x01\x01a", api.ErrLong, api.ErrLong},
		{"\x05\x01\x00\x00\x00\x01a", api.ErrLong, api.ErrLong},
		{"\x08\x80\x00\x00\x00\x00\x00\x00\x01a", api.ErrLong, api.ErrLong},
		{"\x08\xFF\xFF\xFF\xFF\xFF\xFF\xFF\xFF", api.ErrLong, api.ErrLong},
		{"\x01\x01", api.ErrShort, api.ErrShort},
		{"\x01\x20" + long[:31], api.ErrShort, api.ErrShort},
	}
}

// Promise 10.1: each of GetText's errors, at each place of a name and of a value; what is wrong ahead of them with names, values and their order is told behind them.
func TestDecodeTexts(t *testing.T) {
	good := flat(letters())
	bad := []string{"", "", "A", "", "A", "\x00", "\xFF", "\x80", "a", "b", "a", "b", "", "\n", "Z", ""}
	for _, ahead := range [][]string{good, bad} {
		for at := range ahead {
			for _, x := range textFaults() {
				e := x.name
				if at%2 == 1 {
					e = x.value
				}
				for count := at/2 + 1; count <= 8; count++ {
					wantNoLabels(t, labelsOf(uint64(count), ahead[:at]...)+x.s, e, fmt.Sprintf("text %d of %d labels", at, count))
				}
			}
		}
	}
}

// Promise 10.1: a fault of a text is told ahead of one of a text behind it, and ahead of bytes that are left.
func TestDecodeFirstFault(t *testing.T) {
	for _, x := range []struct {
		name string
		s    string
		e    api.Errno
	}{
		{"a name too long, then nothing", "\x01\x01\x01\x21", api.ErrLong},
		{"a name too long, whole, then a value that is none", "\x01\x01" + text(long+"f") + "\x09", api.ErrLong},
		{"a name that is none by its signs, a value too long", "\x01\x01" + text("A") + text(full+"4"), api.ErrLong},
		{"a value that is none by its signs, the next name too long", "\x01\x02" + text("a") + text("\n") + text(long+"f") + text("1"), api.ErrLong},
		{"a value too long, the next name with a nought in front", "\x01\x02" + text("a") + text(full+"4") + "\x01\x00", api.ErrLong},
		{"a name with a nought in front, a value too long", "\x01\x01\x01\x00" + text(full+"4"), api.ErrField},
		{"an empty name and value", "\x01\x01\x00\x00", api.ErrLabel},
		{"an empty name and value, and a byte left", "\x01\x01\x00\x00\x00", api.ErrMore},
		{"an empty name", "\x01\x01\x00\x01\x011", api.ErrLabel},
		{"an empty value", "\x01\x01\x01\x01a\x00", api.ErrLabel},
		{"names that fall", "\x01\x02" + text("b") + text("2") + text("a") + text("1"), api.ErrLabel},
		{"names that fall, and a byte left", "\x01\x02" + text("b") + text("2") + text("a") + text("1") + "\x00", api.ErrMore},
		{"names that fall, a value is missing", "\x01\x02" + text("b") + text("2") + text("a"), api.ErrShort},
		{"a name that is none, and a byte left", "\x01\x01" + text("A") + text("1") + "x", api.ErrMore},
		{"a value that is none, and a byte left", "\x01\x01" + text("a") + text("\x1F") + "x", api.ErrMore},
		{"the same name twice", "\x01\x02" + text("a") + text("1") + text("a") + text("2"), api.ErrLabel},
		{"a name with a digit", "\x01\x01" + text("a1") + text("1"), api.ErrLabel},
		{"a value of 65 bytes that are 64 digits and one", "\x01\x01" + text("a") + text(full+"4"), api.ErrLong},
		{"a value with a byte 7F", "\x01\x01" + text("a") + text("\x7F"), api.ErrLabel},
		{"no labels, and a byte", "\x00\x00", api.ErrLabel},
		{"no labels", "\x00", api.ErrLabel},
		{"nine labels", labelsOf(9, flat(row(9))...), api.ErrLabel},
	} {
		wantNoLabels(t, x.s, x.e, x.name)
		if _, e := plainDecode(x.s); e != x.e {
			t.Errorf("%s: %v by another way; want %v", x.name, e, x.e)
		}
	}
}

// Promise 10.1: bytes that are cut at each place are ErrShort, with bytes behind them ErrMore.
func TestDecodeCut(t *testing.T) {
	for _, l := range many() {
		s := plainBytes(l)
		for end := range len(s) {
			wantNoLabels(t, s[:end], api.ErrShort, "cut")
		}
		for _, behind := range []string{"\x00", "\x01", "\x09", "\xFF", "\x01\x01x\x01\x01y", s} {
			wantNoLabels(t, s+behind, api.ErrMore, "with bytes behind it")
		}
	}
}

// Promise 10.1: each byte changed in each way, against another way; each error is told by some of them.
func TestDecodeEachByte(t *testing.T) {
	var seen [20]int
	for _, l := range [][]api.Pair{labels("a", "1"), labels("a", "1", "b", "2"), labels("job", "node", "k", " ~", "k_", "x"), row(8), great(2)} {
		s := []byte(plainBytes(l))
		for at, right := range s {
			for c := range 256 {
				s[at] = byte(c)
				seen[wantPlain(t, string(s))]++
			}
			s[at] = right
		}
	}
	for _, e := range []api.Errno{api.OK, api.ErrShort, api.ErrRange, api.ErrField, api.ErrMore, api.ErrLong, api.ErrLabel} {
		if seen[e] == 0 {
			t.Errorf("no byte led to %v", e)
		}
	}
}

// likely is bytes that may be labels': so many told, with texts of which few are wrong.
func likely(seed int) string {
	names := []string{"a", "b", "c", "ab", "_", "job", "z", "", "A", long, "ba", "cc"}
	values := []string{"1", "2", " ", "~", full, "x y", "", "\x7F", "\x1F", "\xC5\xA1", "11", "0"}
	count := 1 + mixed(seed)%4
	var texts []string
	for i := range int(count) {
		c := mixed(seed + 10*i + 7)
		texts = append(texts, names[c%12], values[c>>20%16%12])
	}
	s := labelsOf(count, texts...)
	switch c := mixed(seed + 77); c % 16 {
	case 0:
		return s + string([]byte{byte(c >> 8)})
	case 1:
		return s[:c>>8%uint64(len(s)+1)]
	case 2:
		b := []byte(s)
		b[c>>8%uint64(len(b))] = byte(c >> 40)
		return string(b)
	}
	return s
}

// Promise 10.1: any bytes, and such as are nearly labels', against another way.
func TestDecodeIsPlain(t *testing.T) {
	var seen [20]int
	for i := range 100_000 {
		seen[wantPlain(t, likely(i))]++
		var b []byte
		for j := range i % 20 {
			b = append(b, byte(mixed(i*20+j)>>(mixed(i+j)%8))&byte(mixed(i)))
		}
		wantPlain(t, string(b))
		wantPlain(t, plainNum(uint64(i%10))+string(b))
	}
	for _, e := range []api.Errno{api.OK, api.ErrShort, api.ErrMore, api.ErrLabel} {
		if seen[e] < 300 {
			t.Errorf("%v was told %d times alone", e, seen[e])
		}
	}
}

// Promise 10.1: all bytes of up to two, and all short rows of the bytes that labels are made of, against another way.
func TestDecodeAllShort(t *testing.T) {
	for n := range 1 << 16 {
		wantPlain(t, string([]byte{byte(n >> 8), byte(n)}))
		wantPlain(t, string([]byte{1, 1, byte(n >> 8), byte(n)}))
		wantPlain(t, string([]byte{1, 1, 1, 1, byte(n >> 8), 1, 1, byte(n)}))
	}
	for n := range 1 << 8 {
		wantPlain(t, string([]byte{byte(n)}))
	}
	const signs = "\x00\x01\x02a"
	for size := range 10 {
		for n := range 1 << (2 * size) {
			b := make([]byte, size)
			for i := range b {
				b[i] = signs[n>>(2*i)&3]
			}
			wantPlain(t, string(b))
		}
	}
}

// Promise 10.1: bytes that are longer than any labels' are gone through as the chapter says (R6).
func TestDecodeLong(t *testing.T) {
	for _, size := range []int{257, 1 << 16, 1 << 20} {
		much := strings.Repeat("a", size)
		for _, l := range [][]api.Pair{labels("a", "1"), row(8), great(8)} {
			wantNoLabels(t, plainBytes(l)+much, api.ErrMore, size)
		}
		wantNoLabels(t, labelsOf(1, much, "1"), api.ErrLong, size)
		wantNoLabels(t, labelsOf(1, "a", much), api.ErrLong, size)
		wantNoLabels(t, labelsOf(8, append(flat(row(7)), "z", much)...), api.ErrLong, size)
		wantNoLabels(t, labelsOf(8, append(flat(row(7)), much, "z")...), api.ErrLong, size)
		wantNoLabels(t, labelsOf(1)+much, api.ErrRange, size)
		wantNoLabels(t, much, api.ErrRange, size)
		wantNoLabels(t, strings.Repeat("\x00", size), api.ErrLabel, size)
		wantNoLabels(t, strings.Repeat("\x01", size), api.ErrMore, size)
		wantNoLabels(t, labelsOf(uint64(size), flat(row(size%26+1))...), api.ErrLabel, size)
	}
}

// Promise 10.1: pairs that are handed in are not changed, what lies behind their end neither; those that are handed out are not kept (R4).
func TestApart(t *testing.T) {
	room := great(8)
	all := slices.Clone(room)
	for end := range len(room) + 1 {
		Check(room[:end])
		Encode(room[:end])
		Compare(room[:end], room[:len(room)-end])
		Get(room[:end], "z")
	}
	room[4].Name = "A"
	Check(room)
	Encode(room)
	room[4].Name = all[4].Name
	if !slices.Equal(room, all) {
		t.Error("pairs have been changed")
	}
	s := plainBytes(all)
	a, _ := Decode(s)
	b, _ := Decode(s)
	clear(a)
	_ = append(a[:1], room[:3]...)
	if !slices.Equal(b, all) {
		t.Error("two answers of Decode share memory")
	}
	wantDecode(t, s, all)
}

// Promise 10.2: how labels stand, written out; the first ones are the chapter's example.
func TestCompareWritten(t *testing.T) {
	for _, x := range []struct {
		a, b []api.Pair
		n    int
	}{
		{labels("a", "1"), labels("a", "1", "b", "2"), -1},
		{labels("a", "1", "b", "2"), labels("a", "2"), -1},
		{labels("a", "1"), labels("a", "2"), -1},
		{labels("a", "1"), labels("a", "1"), 0},
		{labels("a", "1", "b", "2"), labels("a", "1", "b", "2"), 0},
		{nil, nil, 0},
		{nil, []api.Pair{}, 0},
		{nil, labels("", ""), -1},
		{nil, labels("a", "1"), -1},
		{labels("", ""), labels("", "", "", ""), -1},
		{labels("a", "2"), labels("b", "1"), -1},
		{labels("a", "1"), labels("aa", "0"), -1},
		{labels("_", "1"), labels("a", "1"), -1},
		{labels("Z", "1"), labels("_", "1"), -1},
		{labels("a", "1"), labels("a", "10"), -1},
		{labels("a", "10"), labels("a", "2"), -1},
		{labels("a", " "), labels("a", "~"), -1},
		{labels("a", ""), labels("a", "\x00"), -1},
		{labels("a", "\x7F"), labels("a", "\x80"), -1},
		{labels("a", "\xC3\xA1"), labels("a", "\xFF"), -1},
		{labels("a", "\uFFFD"), labels("a", "\U00010000"), -1},
		{labels("\x7F", "1"), labels("\xFF", "1"), -1},
		{labels("a", "1", "b", "9"), labels("a", "1", "c", "0"), -1},
		{labels("a", "1", "b", "2", "c", "9"), labels("a", "1", "b", "3", "c", "0"), -1},
		{labels("a", "1", "b", "2"), labels("a", "1", "b", "2", "a", "0"), -1},
		{labels("a", "1", "b", "2", "c", "3"), labels("b", "1"), -1},
		{labels("ab", "c"), labels("a", "bc"), 1},
		{labels("a", "b", "c", "d"), labels("a", "b", "cd", ""), -1},
		{labels("b", "1", "a", "1"), labels("a", "1", "b", "1"), 1},
		{great(8), great(7), 1},
		{great(8), great(8), 0},
	} {
		wantCompare(t, x.a, x.b, x.n)
	}
}

// anyPairs is lists of pairs of all kinds: labels, and such as are none, with any bytes, of any count.
func anyPairs() [][]api.Pair {
	l := append(many(), wrong()...)
	for _, sign := range []string{"\x00", " ", "1", "A", "_", "a", "~", "\x7F", "\x80", "\xFF", "á", "\uFFFD", "\U00010000"} {
		l = append(l, labels(sign, "1"), labels("a", sign), labels("a", "1", sign, ""), labels("a", "1", "", sign), labels("a"+sign, sign+"1"))
	}
	return append(l, make([]api.Pair, 1), make([]api.Pair, 2), make([]api.Pair, 100), row(300), row(301), labels(strings.Repeat("a", 70_000), "1"), labels(strings.Repeat("a", 70_001), "1"))
}

// Promise 10.2: all of them against all of them, against another way: -1, 0 or 1.
func TestCompareIsPlain(t *testing.T) {
	var seen [3]int
	all := anyPairs()
	for _, a := range all {
		wantCompare(t, a, slices.Clone(a), 0)
		for _, b := range all {
			n := Compare(a, b)
			if want := plainCompare(a, b); n != want {
				t.Fatalf("Compare of %s and %s: %d; want %d", brief(a), brief(b), n, want)
			}
			seen[n+1]++
		}
	}
	if slices.Contains(seen[:], 0) {
		t.Errorf("-1, 0 and 1 were told %d times", seen)
	}
}

// Promise 10.2: the first pair that differs says it, whatever is behind it; each place, each of the two texts.
func TestCompareEachPlace(t *testing.T) {
	for at := range 8 {
		for longer := at + 1; longer <= 8; longer++ {
			a, b := row(8), row(longer)
			b[at].Value += "x"
			wantCompare(t, a, b, -1)
			b = row(longer)
			b[at].Name += "x"
			b[at].Value = ""
			wantCompare(t, a, b, -1)
			for i := at + 1; i < longer; i++ {
				b[i] = api.Pair{}
			}
			wantCompare(t, a, b, -1)
		}
		wantCompare(t, row(at), row(8), -1)
	}
	for at := range 300 {
		a, b := row(300), row(300)
		b[at].Value += "x"
		wantCompare(t, a, b, -1)
		b = row(300)
		b[at].Name += "x"
		wantCompare(t, a, b, -1)
		wantCompare(t, a[:at], b, -1)
	}
}

// Promise 10.2: labels that are sorted stand in one order, however they stood.
func TestCompareSorts(t *testing.T) {
	rising := [][]api.Pair{
		labels("_", "z"), labels("a", " "), labels("a", "1"), labels("a", "1", "_", "9"), labels("a", "1", "b", "1"), labels("a", "1", "b", "2"), labels("a", "1", "b", "2", "c", "0"),
		labels("a", "1", "ba", "0"), labels("a", "1", "c", "1"), labels("a", "10"), labels("a", "2"), labels("a_", "1"), labels("aa", "1"), labels("ab", "0"), labels("b", "1"), labels("z", "~"),
	}
	for seed := range 200 {
		l := slices.Clone(rising)
		for i := range l {
			j := int(mixed(seed*20+i) % uint64(i+1))
			l[i], l[j] = l[j], l[i]
		}
		slices.SortFunc(l, Compare)
		if !slices.EqualFunc(l, rising, slices.Equal) {
			t.Fatalf("sorted: %q", l)
		}
	}
}

// Promise 10.2: the value of a name, written out: of the first pair with it; nothing, if there is none.
func TestGetWritten(t *testing.T) {
	for _, x := range []struct {
		l           []api.Pair
		name, value string
	}{
		{labels("a", "1", "b", "2"), "a", "1"},
		{labels("a", "1", "b", "2"), "b", "2"},
		{labels("a", "1", "b", "2"), "c", ""},
		{labels("a", "1", "b", "2"), "_", ""},
		{labels("a", "1", "b", "2"), "", ""},
		{labels("a", "1", "b", "2"), "A", ""},
		{labels("a", "1", "b", "2"), "ab", ""},
		{labels("a", "1", "b", "2"), "1", ""},
		{labels("ab", "1"), "a", ""},
		{labels("ab", "1"), "b", ""},
		{labels("ab", "1"), "abc", ""},
		{nil, "a", ""},
		{nil, "", ""},
		{labels("a", "1", "a", "2"), "a", "1"},
		{labels("a", "", "a", "2"), "a", ""},
		{labels("b", "2", "a", "1", "b", "3"), "b", "2"},
		{labels("b", "2", "a", "1", "b", "3"), "a", "1"},
		{labels("z", "1", "a", "2", "m", "3"), "m", "3"},
		{labels("z", "1", "a", "2", "m", "3"), "a", "2"},
		{labels("", "x"), "", "x"},
		{labels("\xFF", "\x00"), "\xFF", "\x00"},
		{labels("\xFF", "\x00"), "\uFFFD", ""},
		{labels("a\x00", "1"), "a", ""},
		{labels(long, full), long, full},
		{labels(long+"f", full+"4"), long + "f", full + "4"},
		{labels(long+"f", full+"4"), long, ""},
		{row(300), "lb", "287"},
		{row(300), "ln", "299"},
		{row(300), "lo", ""},
	} {
		wantGet(t, x.l, x.name, x.value)
	}
}

// Promise 10.2: the value of each name of any pairs, and of others, against another way.
func TestGetIsPlain(t *testing.T) {
	for _, l := range anyPairs() {
		for _, p := range l {
			for _, name := range []string{p.Name, p.Name + "a", "a" + p.Name, p.Name[:len(p.Name)/2], strings.ToUpper(p.Name), p.Value} {
				wantGet(t, l, name, plainGet(l, name))
			}
		}
		for _, name := range []string{"", "a", "b", "c", "job", "A", "\x00", "\xFF"} {
			wantGet(t, l, name, plainGet(l, name))
		}
	}
}

// Promise 10.3: Decode of Encode is the labels.
func TestDecodeOfEncode(t *testing.T) {
	right := 0
	for _, l := range anyPairs() {
		s, e := Encode(l)
		if e != api.OK {
			continue
		}
		right++
		wantDecode(t, s, l)
	}
	for seed := range 20_000 {
		l := anyLabels(1+seed%8, 9*seed)
		s, e := Encode(l)
		if e != api.OK {
			t.Fatalf("%q: %v", l, e)
		}
		wantDecode(t, s, l)
	}
	if right < len(many()) {
		t.Errorf("%d alone were encoded", right)
	}
}

// Promise 10.3: Encode of Decode is the bytes: whatever is decoded is encoded again as it was.
func TestEncodeOfDecode(t *testing.T) {
	decoded := 0
	for i := range 100_000 {
		s := likely(i)
		l, e := Decode(s)
		if e != api.OK {
			continue
		}
		decoded++
		wantEncode(t, l, s)
	}
	if decoded < 1000 {
		t.Errorf("%d alone were decoded", decoded)
	}
}

// Promise 10.3: labels that differ have other bytes; they are the same where Compare says so.
func TestBytesDiffer(t *testing.T) {
	seen := make(map[string]string)
	all := many()
	for _, l := range all {
		s, _ := Encode(l)
		if tells := plainText(l); seen[s] != "" && seen[s] != tells {
			t.Errorf("%s and %s have the same bytes", seen[s], tells)
		} else {
			seen[s] = tells
		}
		for _, other := range all {
			if o, _ := Encode(other); (o == s) != (Compare(l, other) == 0) {
				t.Errorf("%q and %q: their bytes and Compare say otherwise", l, other)
			}
		}
	}
}

// FuzzLabels: any bytes against another way, and encoded again as they were; any pairs of them checked, encoded, compared and asked against another way.
func FuzzLabels(f *testing.F) {
	for _, l := range [][]api.Pair{labels("a", "1"), labels("a", "1", "b", "2"), labels("job", "node 7", "zone", "eu"), great(2), labels("b", "1", "a", "2")} {
		f.Add(plainBytes(l), "a,1,b,2", "b")
	}
	f.Add(labelsOf(1, "A", "1"), "a,1,a,2,b,,c", "a")
	f.Add(labelsOf(1, "", ""), "\xff,\x00", "\xff")
	f.Fuzz(func(t *testing.T, s, pairs, name string) {
		if wantPlain(t, s) == api.OK {
			l, _ := Decode(s)
			wantEncode(t, l, s)
		}
		a := labels(strings.Split(pairs, ",")...)
		b := labels(strings.Split(s, ",")...)
		for _, l := range [][]api.Pair{a, b} {
			e := plainCheck(l)
			wantCheck(t, l, e)
			if e == api.OK {
				wantEncode(t, l, plainBytes(l))
			}
			wantPlain(t, plainBytes(l))
			wantGet(t, l, name, plainGet(l, name))
		}
		wantCompare(t, a, b, plainCompare(a, b))
		wantCompare(t, a, a[:len(a)/2], plainCompare(a, a[:len(a)/2]))
	})
}

// Labels are encoded and decoded again, held against others, and asked for a name's value.
func Example() {
	l := []api.Pair{{Name: "job", Value: "node"}, {Name: "zone", Value: "eu"}}
	s, e := Encode(l)
	again, d := Decode(s)
	fmt.Println(len(s), e == api.OK, d == api.OK, again)
	fmt.Println(Compare(l[:1], l), Compare(l, again), Compare(l, l[1:]))
	fmt.Println(Get(l, "zone"), Get(l, "name") == "")
	fmt.Println(Check([]api.Pair{l[1], l[0]}))
	// Output:
	// 23 true true [{job node} {zone eu}]
	// -1 0 -1
	// eu true
	// error 16
}
