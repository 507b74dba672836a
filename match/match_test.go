package match

import (
	"fmt"
	"math"
	"math/big"
	"regexp"
	"slices"
	"strings"
	"testing"

	"barograph/api"
)

// plainNum is a number's bytes.
func plainNum(n uint64) string {
	b := new(big.Int).SetUint64(n).Bytes()
	return string(append([]byte{byte(len(b))}, b...))
}

// text is a text's bytes.
func text(s string) string { return plainNum(uint64(len(s))) + s }

// one is the bytes of a matcher of this kind, name and value, whatever they are.
func one(kind uint64, name, value string) string { return plainNum(kind) + text(name) + text(value) }

// bytesOf is bytes that tell so many matchers, with these ones.
func bytesOf(count uint64, l []api.Match) string {
	s := plainNum(count)
	for _, m := range l {
		s += one(uint64(m.Kind), m.Name, m.Value)
	}
	return s
}

// plainBytes is the bytes of matchers, whether or not they are right.
func plainBytes(l []api.Match) string { return bytesOf(uint64(len(l)), l) }

var (
	plainName  = regexp.MustCompile(`\A[_abcdefghijklmnopqrstuvwxyz]{1,32}\z`)
	plainValue = regexp.MustCompile(`\A[\x20-\x7E]{0,64}\z`)
)

// plainCheck is Check by another way: what is wrong with each of them, and then the first of these.
func plainCheck(l []api.Match) api.Errno {
	if len(l) >= 9 {
		return api.ErrLong
	}
	var faults []api.Errno
	for _, m := range l {
		switch {
		case !slices.Contains([]int{1, 2, 3, 4}, m.Kind):
			faults = append(faults, api.ErrKind)
		case !plainName.MatchString(m.Name), !plainValue.MatchString(m.Value), m.Kind == 4 && len(m.Value) > 0:
			faults = append(faults, api.ErrField)
		}
	}
	return append(faults, api.OK)[0]
}

// plainIs is Is by another way: pairs from the last one on, each in the place of one behind it, and all four kinds of each matcher.
func plainIs(l []api.Match, labels []api.Pair) bool {
	if plainCheck(l) != api.OK {
		return false
	}
	values := make(map[string]string)
	for _, p := range slices.Backward(labels) {
		values[p.Name] = p.Value
	}
	failed := 0
	for _, m := range l {
		v := values[m.Name]
		_, begins := strings.CutPrefix(v, m.Value)
		if kinds := [4]bool{v == m.Value, v != m.Value, begins, len(v) != 0}; !kinds[m.Kind-1] {
			failed++
		}
	}
	return failed == 0
}

// plainGetNum is the number that bytes begin with, and what is behind it: any number up to 8 digits, if it is written again as it was.
func plainGetNum(s string) (uint64, string, api.Errno) {
	switch {
	case s == "":
		return 0, "", api.ErrShort
	case s[0] > 8:
		return 0, "", api.ErrRange
	case len(s) < 1+int(s[0]):
		return 0, "", api.ErrShort
	}
	own, rest := s[:1+int(s[0])], s[1+int(s[0]):]
	n := new(big.Int).SetBytes([]byte(own[1:])).Uint64()
	if plainNum(n) != own {
		return 0, "", api.ErrField
	}
	return n, rest, api.OK
}

// plainGet is Get by another way: all numbers and texts in a row, by three and three.
func plainGet(s string) ([]api.Match, int, api.Errno) {
	count, rest, e := plainGetNum(s)
	if e != api.OK {
		return nil, 0, e
	}
	if !slices.Contains([]uint64{0, 1, 2, 3, 4, 5, 6, 7, 8}, count) {
		return nil, 0, api.ErrLong
	}
	l := make([]api.Match, count)
	for i := range 3 * count {
		var n uint64
		if n, rest, e = plainGetNum(rest); e != api.OK {
			return nil, 0, e
		}
		most := []uint64{4, 32, 64}[i%3]
		switch {
		case n > most && i%3 == 0:
			return nil, 0, api.ErrKind
		case n > most:
			return nil, 0, api.ErrLong
		case i%3 == 0:
			l[i/3].Kind = int(n)
			continue
		case n > uint64(len(rest)):
			return nil, 0, api.ErrShort
		}
		*[]*string{nil, &l[i/3].Name, &l[i/3].Value}[i%3] = rest[:n]
		rest = rest[n:]
	}
	if e := plainCheck(l); e != api.OK {
		return nil, 0, e
	}
	return l, len(s) - len(rest), api.OK
}

// mixed is a number that looks like any, the same one for the same i.
func mixed(i int) uint64 {
	x := (uint64(i) + 1) * 0x9E3779B97F4A7C15
	x = (x ^ x>>30) * 0xBF58476D1CE4E5B9
	x = (x ^ x>>27) * 0x94D049BB133111EB
	return x ^ x>>31
}

func equal(name, value string) api.Match {
	return api.Match{Kind: api.MEqual, Name: name, Value: value}
}
func not(name, value string) api.Match { return api.Match{Kind: api.MNot, Name: name, Value: value} }
func prefix(name, value string) api.Match {
	return api.Match{Kind: api.MPrefix, Name: name, Value: value}
}
func some(name string) api.Match { return api.Match{Kind: api.MAny, Name: name} }

// kinds is all kinds of matchers.
var kinds = []int{api.MEqual, api.MNot, api.MPrefix, api.MAny}

// list is matchers in a row.
func list(l ...api.Match) []api.Match { return l }

// labels is pairs of names and values that stand by turns.
func labels(texts ...string) []api.Pair {
	var l []api.Pair
	for i := 0; i+1 < len(texts); i += 2 {
		l = append(l, api.Pair{Name: texts[i], Value: texts[i+1]})
	}
	return l
}

const (
	nameSigns = "_abcdefghijklmnopqrstuvwxyz"
	// full is as many signs as a value may have.
	full = "0123456789012345678901234567890123456789012345678901234567890123"
	// long is as many signs as a name may have.
	long = "abcdefghijklmnopqrstuvwxyz_abcde"
)

// anyName is a name of so many signs.
func anyName(size, seed int) string {
	var b []byte
	for i := range size {
		b = append(b, nameSigns[mixed(i+seed)%27])
	}
	return string(b)
}

// anyValue is a value of so many signs.
func anyValue(size, seed int) string {
	var b []byte
	for i := range size {
		b = append(b, byte(0x20+mixed(i+seed)%95))
	}
	return string(b)
}

// anyMatchers is so many matchers that are right.
func anyMatchers(count, seed int) []api.Match {
	var l []api.Match
	for i := range count {
		c := mixed(seed + 1000*i)
		m := api.Match{Kind: kinds[c%4], Name: anyName(1+int(c>>2%32), int(c>>8%3000))}
		if m.Kind != api.MAny {
			m.Value = anyValue(int(c>>20%65), int(c>>30%3000))
		}
		l = append(l, m)
	}
	return l
}

// row is so many matchers with short names: all kinds by turns.
func row(count int) []api.Match {
	var l []api.Match
	for i := range count {
		m := api.Match{Kind: kinds[i%4], Name: string(nameSigns[i%27]), Value: fmt.Sprint(i)}
		if m.Kind == api.MAny {
			m.Value = ""
		}
		l = append(l, m)
	}
	return l
}

// great is so many matchers with the longest names and values.
func great(count int) []api.Match { return slices.Repeat(list(prefix(long, full)), count) }

// valueSigns is all signs that a value may have.
func valueSigns() string {
	var b []byte
	for c := 0x20; c <= 0x7E; c++ {
		b = append(b, byte(c))
	}
	return string(b)
}

// many is matchers that are right: of each count, such as are used, any, and at the limits.
func many() [][]api.Match {
	l := [][]api.Match{
		nil,
		{},
		list(equal("a", "1")),
		list(equal("a", "")),
		list(not("a", "1")),
		list(not("a", "")),
		list(prefix("a", "1")),
		list(prefix("a", "")),
		list(some("a")),
		list(equal("a", "1"), not("b", "2")),
		list(not("b", "2"), equal("a", "1")),
		list(equal("a", "1"), equal("a", "1")),
		list(equal("a", "1"), not("a", "1")),
		list(equal("_", " "), not("__", "~"), prefix("z_", "  "), some("zz")),
		list(some("job"), equal("name", `up{x="y"}`), not("instance", "127.0.0.1:9090"), prefix("zone", "eu-")),
		list(equal(long, full)),
		list(some(long)),
		list(equal("a", valueSigns()[:64])),
		list(prefix("a", valueSigns()[31:])),
	}
	for count := range 9 {
		l = append(l, row(count), great(count))
		for seed := range 40 {
			l = append(l, anyMatchers(count, 50*count+seed))
		}
	}
	for size := range 65 {
		l = append(l, list(equal(anyName(1+size%32, size), anyValue(size, 2*size)), not(anyName(32, size), anyValue(64-size, size))))
	}
	return l
}

// fault is a matcher that is wrong, and what is.
type fault struct {
	m api.Match
	e api.Errno
}

// faults is one of each kind, and of some several.
func faults() []fault {
	l := []fault{
		{api.Match{}, api.ErrKind},
		{api.Match{Name: "a", Value: "1"}, api.ErrKind},
		{api.Match{Kind: 5, Name: "a"}, api.ErrKind},
		{api.Match{Kind: 5, Name: "A", Value: "\x00"}, api.ErrKind},
		{api.Match{Kind: 6, Name: "a", Value: "1"}, api.ErrKind},
		{api.Match{Kind: -1, Name: "a", Value: "1"}, api.ErrKind},
		{api.Match{Kind: -4, Name: "a"}, api.ErrKind},
		{api.Match{Kind: 257, Name: "a", Value: "1"}, api.ErrKind},
		{api.Match{Kind: 1<<32 + 1, Name: "a", Value: "1"}, api.ErrKind},
		{api.Match{Kind: math.MaxInt, Name: "a", Value: "1"}, api.ErrKind},
		{api.Match{Kind: math.MinInt + 1, Name: "a", Value: "1"}, api.ErrKind},
		{api.Match{Kind: api.MAny, Name: "a", Value: "1"}, api.ErrField},
		{api.Match{Kind: api.MAny, Name: "a", Value: " "}, api.ErrField},
		{api.Match{Kind: api.MAny, Name: "a", Value: "-"}, api.ErrField},
		{api.Match{Kind: api.MAny, Name: "a", Value: "\x00"}, api.ErrField},
	}
	for _, kind := range kinds {
		for _, name := range []string{"", "A", "a1", "1", "-", "a-b", "a b", " ", "á", "\x00", "a\x00", "\xFF", "a\n", long + "f", strings.Repeat("a", 33)} {
			l = append(l, fault{api.Match{Kind: kind, Name: name}, api.ErrField}, fault{api.Match{Kind: kind, Name: name, Value: "1"}, api.ErrField})
		}
		for _, value := range []string{"\x00", "\x1F", "\x7F", "\x80", "\xFF", "\n", "1\n", "\n1", "á", "\uFFFD", full + "4", strings.Repeat("x", 65)} {
			l = append(l, fault{api.Match{Kind: kind, Name: "a", Value: value}, api.ErrField})
		}
	}
	return l
}

// brief is matchers as they are told beside a fault: those ahead, and how many there are.
func brief(l []api.Match) string {
	s := fmt.Sprintf("%d matchers", len(l))
	for _, m := range l[:min(len(l), 9)] {
		s += fmt.Sprintf(", {%d %.70q %.70q}", m.Kind, m.Name, m.Value)
	}
	return s
}

// briefLabels is pairs in the same way.
func briefLabels(l []api.Pair) string {
	return fmt.Sprintf("%d pairs, %.70q", len(l), l[:min(len(l), 9)])
}

// wantCheck checks matchers; with an error they have no bytes, and hold of nothing.
func wantCheck(t *testing.T, l []api.Match, want api.Errno) {
	t.Helper()
	if e := Check(l); e != want {
		t.Errorf("Check of %s: %v; want %v", brief(l), e, want)
	}
	if want == api.OK {
		return
	}
	if s, e := Encode(l); s != "" || e != want {
		t.Errorf("Encode of %s: %.200X, %v; want %v", brief(l), s, e, want)
	}
	wantIs(t, l, nil, false)
	wantIs(t, l, labels("a", "1"), false)
}

func wantIs(t *testing.T, l []api.Match, pairs []api.Pair, want bool) {
	t.Helper()
	if ok := Is(l, pairs); ok != want {
		t.Errorf("Is of %s, and of %s: %v", brief(l), briefLabels(pairs), ok)
	}
}

func wantEncode(t *testing.T, l []api.Match, s string) {
	t.Helper()
	if got, e := Encode(l); got != s || e != api.OK {
		t.Errorf("Encode of %s: %X, %v; want %X", brief(l), got, e, s)
	}
}

func wantGet(t *testing.T, s string, l []api.Match, size int) {
	t.Helper()
	if got, n, e := Get(s); !slices.Equal(got, l) || n != size || e != api.OK {
		t.Errorf("%.200X: %s, in %d, %v; want %s, in %d", s, brief(got), n, e, brief(l), size)
	}
}

func wantNone(t *testing.T, s string, want api.Errno, what any) {
	t.Helper()
	if l, n, e := Get(s); len(l) != 0 || n != 0 || e != want {
		t.Errorf("%v: %.200X: %s, in %d, %v; want %v", what, s, brief(l), n, e, want)
	}
}

// wantPlain gets matchers from bytes, and holds the answer against another way; it tells the error.
func wantPlain(t *testing.T, s string) api.Errno {
	t.Helper()
	l, size, e := plainGet(s)
	if e == api.OK {
		wantGet(t, s, l, size)
	} else {
		wantNone(t, s, e, "by another way it is an error")
	}
	return e
}

// Promise 11.1: the chapter's examples.
func TestExamples(t *testing.T) {
	two := list(equal("a", "1"), not("b", "2"))
	wantIs(t, two, labels("a", "1"), true)
	wantIs(t, two, labels("a", "1", "b", "2"), false)
	for _, l := range someLabels() {
		wantIs(t, list(prefix("a", "")), l, true)
		wantIs(t, list(prefix("job", "")), l, true)
		has := slices.ContainsFunc(l, func(p api.Pair) bool { return p.Name == "job" })
		wantIs(t, list(some("job")), l, has)
	}
}

// someLabels is labels of several kinds.
func someLabels() [][]api.Pair {
	return [][]api.Pair{
		labels("a", "1"),
		labels("a", "2"),
		labels("a", "12"),
		labels("a", "1", "b", "2"),
		labels("a", "1", "b", "3"),
		labels("b", "1"),
		labels("job", "node"),
		labels("a", "1", "job", "node"),
		labels("job", "node", "zone", "eu"),
		labels("jobs", "node"),
		labels("jo", "node"),
		labels("_", " ", "__", "~"),
		labels(long, full),
		labels("a", "1", "b", "2", "c", "3", "d", "4", "e", "5", "f", "6", "g", "7", "job", "8"),
	}
}

// Promise 11.1: matchers of many kinds are right.
func TestRight(t *testing.T) {
	for _, l := range many() {
		if e := plainCheck(l); e != api.OK {
			t.Fatalf("%s: by another way %v", brief(l), e)
		}
		wantCheck(t, l, api.OK)
	}
}

// Promise 11.1: a fault at each place alone, among matchers that are right.
func TestEachFault(t *testing.T) {
	for _, x := range faults() {
		wantCheck(t, list(x.m), x.e)
		for count := 1; count <= 8; count++ {
			for at := range count {
				l := row(count)
				l[at] = x.m
				wantCheck(t, l, x.e)
			}
		}
	}
}

// Promise 11.1: the first matcher that is wrong says it, whatever is wrong behind it; too many are ErrLong, whatever is wrong with them.
func TestFirstFault(t *testing.T) {
	for _, x := range faults() {
		for _, y := range faults() {
			wantCheck(t, list(x.m, y.m), x.e)
			wantCheck(t, list(some("a"), x.m, equal("b", ""), y.m, not("c", "1")), x.e)
		}
		for at := range 8 {
			l := slices.Repeat(list(x.m), 8)
			copy(l, row(at))
			wantCheck(t, l, x.e)
		}
		wantCheck(t, slices.Repeat(list(x.m), 9), api.ErrLong)
		wantCheck(t, append(row(8), x.m), api.ErrLong)
		wantCheck(t, append(list(x.m), row(8)...), api.ErrLong)
	}
	wantCheck(t, list(api.Match{Kind: 1}, api.Match{Kind: 9, Name: "a"}), api.ErrField)
	wantCheck(t, list(api.Match{Kind: 9, Name: "a"}, api.Match{Kind: 1}), api.ErrKind)
}

// Promise 11.1: each kind; the name and value are asked for behind it.
func TestCheckKinds(t *testing.T) {
	var all []int
	for kind := -300; kind <= 300; kind++ {
		all = append(all, kind)
	}
	for shift := 8; shift < 63; shift++ {
		for near := -5; near <= 5; near++ {
			all = append(all, 1<<shift+near, -1<<shift+near)
		}
	}
	for _, kind := range append(all, math.MaxInt, math.MinInt, math.MinInt+4) {
		want, field := api.OK, api.ErrField
		if kind < 1 || kind > 4 {
			want, field = api.ErrKind, api.ErrKind
		}
		wantCheck(t, list(api.Match{Kind: kind, Name: "a"}), want)
		wantCheck(t, list(api.Match{Kind: kind}), field)
		wantCheck(t, list(api.Match{Kind: kind, Name: "a", Value: "\x7F"}), field)
		if kind == 4 {
			want = api.ErrField
		}
		wantCheck(t, list(api.Match{Kind: kind, Name: "a", Value: "1"}), want)
	}
}

// Promise 11.1: up to 8 matchers, no more, also of a great many (R6).
func TestCheckCounts(t *testing.T) {
	for count := range 300 {
		want := api.OK
		if count > 8 {
			want = api.ErrLong
		}
		wantCheck(t, row(count), want)
		wantCheck(t, great(count), want)
		if want == api.OK {
			wantIs(t, slices.Repeat(list(some("a")), count), labels("a", "1"), true)
		} else {
			wantIs(t, slices.Repeat(list(some("a")), count), labels("a", "1"), false)
		}
	}
	for _, count := range []int{257, 264, 65537, 65544, 1 << 20} {
		wantCheck(t, make([]api.Match, count), api.ErrLong)
		wantCheck(t, slices.Repeat(list(prefix("a", "")), count), api.ErrLong)
	}
}

// Promise 11.1: each byte at places of a name and of a value, of each kind.
func TestCheckSigns(t *testing.T) {
	for c := range 256 {
		sign := string([]byte{byte(c)})
		name, value := api.ErrField, api.ErrField
		if strings.Contains(nameSigns, sign) {
			name = api.OK
		}
		if c >= 0x20 && c <= 0x7E {
			value = api.OK
		}
		for size := range 64 {
			for _, at := range []int{0, size / 2, size} {
				for _, kind := range kinds {
					if size < 32 {
						wantCheck(t, list(api.Match{Kind: kind, Name: anyName(at, c) + sign + anyName(size-at, c+1)}), name)
					}
					want := value
					if kind == api.MAny {
						want = api.ErrField
					}
					wantCheck(t, list(api.Match{Kind: kind, Name: "a", Value: anyValue(at, c) + sign + anyValue(size-at, c+1)}), want)
				}
			}
		}
	}
}

// Promise 11.1: signs of several bytes, whole or cut, are none of a name's or a value's.
func TestCheckWideSigns(t *testing.T) {
	wide := []string{"\u0080", "\u00FF", "\u0161", "\u0141", "\u015F", "\u0120", "\u017E", "\u2020", "\u4E61", "\uFFFD", "\uFF41", "\U0001F061", "\U0010FFFF",
		"\xC0\xA0", "\xC1\xA1", "\xE0\x81\xA1", "\xED\xA0\x80", "\xF0\x80\x81\xA1", "\xC2", "\xE2\x80", "\xF0\x9F\x98", "\xFE", "\xFF\xFF"}
	for _, x := range wide {
		for _, s := range []string{x, "a" + x, x + "a", "a" + x + "b", x + x} {
			for _, kind := range kinds {
				wantCheck(t, list(api.Match{Kind: kind, Name: s}), api.ErrField)
				wantCheck(t, list(api.Match{Kind: kind, Name: "a", Value: s}), api.ErrField)
			}
		}
	}
}

// Promise 11.1: each length of a name and of a value; also lengths that are far beyond the limits (R6).
func TestCheckLengths(t *testing.T) {
	lengths := []int{255, 256, 257, 288, 320, 65535, 65536, 65537, 65568, 65600, 1 << 20}
	for size := range 140 {
		lengths = append(lengths, size)
	}
	for _, size := range lengths {
		for _, kind := range kinds {
			name, value := api.ErrField, api.ErrField
			if size >= 1 && size <= 32 {
				name = api.OK
			}
			if size <= 64 && kind != api.MAny || size == 0 {
				value = api.OK
			}
			for at := range 8 {
				l := row(8)
				l[at] = api.Match{Kind: kind, Name: strings.Repeat("z", size)}
				wantCheck(t, l, name)
				l[at] = api.Match{Kind: kind, Name: "z", Value: strings.Repeat("~", size)}
				wantCheck(t, l, value)
			}
		}
	}
}

// Promise 11.1: what each kind asks of a value, written out.
func TestIsWritten(t *testing.T) {
	for _, x := range []struct {
		value, v                  string
		equals, differs, beginsSo bool
	}{
		{"1", "1", true, false, true},
		{"1", "2", false, true, false},
		{"1", "12", false, true, true},
		{"1", "21", false, true, false},
		{"12", "1", false, true, false},
		{"12", "2", false, true, false},
		{"1", "", false, true, false},
		{"", "", true, false, true},
		{"", "1", false, true, true},
		{"a", "A", false, true, false},
		{"A", "a", false, true, false},
		{" ", "", false, true, false},
		{" ", "  ", false, true, true},
		{"~", "~~", false, true, true},
		{".", "x", false, true, false},
		{"*", "x", false, true, false},
		{"", "\x00", false, true, true},
		{"a", "a\x00", false, true, true},
		{"a", "\x00a", false, true, false},
		{"a", "a\xFF\xFE", false, true, true},
		{full, full, true, false, true},
		{full, full + "4", false, true, true},
		{full, full[:63], false, true, false},
		{full, full[:63] + "x", false, true, false},
		{full[:63], full, false, true, true},
	} {
		l := labels("x", "1", "y", x.v, "z", "")
		if x.v == "" {
			wantEachKind(t, x.value, labels("x", "1"), x.equals, x.differs, x.beginsSo, false)
		}
		wantEachKind(t, x.value, l, x.equals, x.differs, x.beginsSo, x.v != "")
	}
}

// wantEachKind asks for y with a matcher of each kind.
func wantEachKind(t *testing.T, value string, l []api.Pair, equals, differs, begins, has bool) {
	t.Helper()
	wantIs(t, list(equal("y", value)), l, equals)
	wantIs(t, list(not("y", value)), l, differs)
	wantIs(t, list(prefix("y", value)), l, begins)
	wantIs(t, list(some("y")), l, has)
}

// Promise 11.1: of no labels, and of labels without the name, a value is empty.
func TestIsWithoutName(t *testing.T) {
	for _, l := range [][]api.Pair{nil, {}, labels("a", "1"), labels("yy", "1"), labels("Y", "1"), labels("", "1"), labels("1", "y"), labels("a", "y", "b", "y"), labels("y ", "1")} {
		wantEachKind(t, "1", l, false, true, false, false)
		wantEachKind(t, "", l, true, false, true, false)
		wantIs(t, nil, l, true)
		wantIs(t, []api.Match{}, l, true)
	}
}

// Promise 11.1: the value of the first pair with a name is asked, also of pairs that are no labels.
func TestIsOfFirst(t *testing.T) {
	for _, l := range [][]api.Pair{labels("y", "1", "y", "2"), labels("z", "2", "y", "1", "y", ""), labels("", "", "", "", "y", "1", "a", "2"), append(make([]api.Pair, 5000), labels("y", "1", "y", "2")...)} {
		wantEachKind(t, "1", l, true, false, true, true)
		wantEachKind(t, "2", l, false, true, false, true)
		wantEachKind(t, "", l, false, true, true, true)
	}
	wantEachKind(t, "1", labels("y", "", "y", "1"), false, true, false, false)
}

// Promise 11.1: all of them must hold: one that does not, at each place, is enough.
func TestIsEachPlace(t *testing.T) {
	l := labels("a", "1", "b", "22", "c", "3")
	hold := list(equal("a", "1"), not("a", "2"), prefix("b", "2"), some("c"), equal("d", ""), prefix("d", ""), not("c", ""), prefix("b", "22"))
	fail := list(equal("a", "2"), equal("a", ""), equal("d", "1"), not("a", "1"), not("d", ""), prefix("a", "11"), prefix("b", "3"), prefix("d", "1"), some("d"))
	for count := range 9 {
		wantIs(t, hold[:count], l, true)
		wantIs(t, hold[8-count:], l, true)
		for at := range count {
			for _, m := range fail {
				some := slices.Clone(hold[:count])
				some[at] = m
				wantIs(t, some, l, false)
			}
		}
	}
	for _, m := range fail {
		wantIs(t, list(m), l, false)
		wantIs(t, slices.Repeat(list(m), 8), l, false)
	}
}

// Promise 11.1: of matchers that are wrong it is no, also where they would hold, and wherever the wrong one stands.
func TestIsOfWrong(t *testing.T) {
	l := labels("a", "1", "b", "2")
	for _, x := range faults() {
		for at := range 3 {
			three := list(equal("a", "1"), some("b"), prefix("c", ""))
			wantIs(t, three, l, true)
			three[at] = x.m
			wantIs(t, three, l, false)
			wantIs(t, three, nil, false)
		}
	}
	wantIs(t, list(equal("A", "")), l, false)
	wantIs(t, list(equal("A", "1")), labels("A", "1"), false)
	wantIs(t, list(equal("a", "\x00")), labels("a", "\x00"), false)
	wantIs(t, list(equal("a", full+"4")), labels("a", full+"4"), false)
	wantIs(t, list(not("a", "\x00")), l, false)
	wantIs(t, list(api.Match{Kind: api.MAny, Name: "a", Value: "1"}), l, false)
	wantIs(t, slices.Repeat(list(some("a")), 9), l, false)
}

// Promise 11.1: matchers and pairs of all kinds, against another way.
func TestIsIsPlain(t *testing.T) {
	var seen [2]int
	names, values := []string{"a", "b", "ab", "_", "A", ""}, []string{"", "1", "12", "2", "122", "\x00", " ", "a"}
	for i := range 200_000 {
		c := mixed(i)
		var l []api.Match
		for j := range int(c % 5) {
			d := mixed(i*10 + j)
			l = append(l, api.Match{Kind: int(1 + d>>5%4), Name: names[d>>10%4], Value: values[d>>20%5]})
			if l[j].Kind == api.MAny && d>>30%8 != 0 {
				l[j].Value = ""
			}
			if d>>40%32 == 0 {
				l[j] = api.Match{Kind: int(d >> 10 % 6), Name: names[d>>10%6], Value: values[d>>20%8]}
			}
		}
		var pairs []api.Pair
		for j := range int(c >> 8 % 4) {
			d := mixed(i*10 + j + 5)
			pairs = append(pairs, api.Pair{Name: names[d>>10%6], Value: values[d>>20%8]})
		}
		want := plainIs(l, pairs)
		wantIs(t, l, pairs, want)
		wantCheck(t, l, plainCheck(l))
		if want {
			seen[1]++
		} else {
			seen[0]++
		}
	}
	if min(seen[0], seen[1]) < 20_000 {
		t.Errorf("no and yes were told %d times", seen)
	}
}

// Promise 11.2: matchers' bytes, written out.
func TestWritten(t *testing.T) {
	for _, x := range []struct {
		l []api.Match
		s string
	}{
		{nil, "\x00"},
		{list(equal("a", "1")), "\x01\x01\x01\x01\x01\x01a\x01\x011"},
		{list(equal("a", "1"), not("b", "2")), "\x01\x02\x01\x01\x01\x01\x61\x01\x01\x31\x01\x02\x01\x01\x62\x01\x01\x32"},
		{list(prefix("job", "node ")), "\x01\x01\x01\x03\x01\x03job\x01\x05node "},
		{list(some("job")), "\x01\x01\x01\x04\x01\x03job\x00"},
		{list(equal("a", "")), "\x01\x01\x01\x01\x01\x01a\x00"},
		{list(prefix("_", "")), "\x01\x01\x01\x03\x01\x01_\x00"},
		{list(not(long, full)), "\x01\x01\x01\x02\x01\x20" + long + "\x01\x40" + full},
		{slices.Repeat(list(some("z")), 8), "\x01\x08" + strings.Repeat("\x01\x04\x01\x01z\x00", 8)},
	} {
		wantEncode(t, x.l, x.s)
		wantGet(t, x.s, x.l, len(x.s))
		wantGet(t, x.s+"\x00", x.l, len(x.s))
	}
}

// Promise 11.2: matchers of many kinds, against another way; what is behind them is not theirs.
func TestBytes(t *testing.T) {
	for _, l := range many() {
		s := plainBytes(l)
		wantEncode(t, l, s)
		for _, behind := range []string{"", "\x00", "\x01", "\x09", "\xFF", "\x01\x01", s, strings.Repeat("x", 70_000)} {
			wantGet(t, s+behind, l, len(s))
		}
	}
}

// Promise 11.2: bytes that are cut at each place are ErrShort.
func TestGetCut(t *testing.T) {
	for _, l := range many() {
		s := plainBytes(l)
		for end := range len(s) {
			wantNone(t, s[:end], api.ErrShort, "cut")
		}
	}
}

// Promise 11.2: each error of the number of matchers; one above 8 is ErrLong, whatever is behind it.
func TestGetCount(t *testing.T) {
	wantNone(t, "", api.ErrShort, "nothing")
	for c := 9; c < 256; c++ {
		wantNone(t, string([]byte{byte(c)})+one(1, "a", "1"), api.ErrRange, c)
	}
	for digits := 1; digits <= 8; digits++ {
		head := string([]byte{byte(digits)})
		for fewer := range digits {
			wantNone(t, head+strings.Repeat("\x01", fewer), api.ErrShort, "digits are missing")
		}
		wantNone(t, head+strings.Repeat("\x00", digits), api.ErrField, "a nought in front")
		if digits > 1 {
			wantNone(t, head+strings.Repeat("\x00", digits-1)+"\x01"+one(1, "a", "1"), api.ErrField, "noughts in front of 1")
		}
	}
	for _, count := range []uint64{9, 10, 16, 32, 255, 256, 257, 264, 1 << 16, 1<<16 + 1, 1 << 32, 1<<32 + 8, 1 << 62, 1 << 63, 1<<63 + 1, math.MaxUint64 - 7, math.MaxUint64} {
		for _, behind := range []string{"", "\x00", "\x09", "\x01", "\x01\x05", "\x01\x00", one(1, "a", "1"), one(5, "a", "1"), one(1, long+"f", ""), one(1, "a", full+"4")} {
			wantNone(t, plainNum(count)+behind, api.ErrLong, count)
		}
		wantNone(t, bytesOf(count, row(9)), api.ErrLong, count)
	}
}

// Promise 11.2: so many matchers are got as are told, and no more; if there are fewer it is ErrShort.
func TestGetOtherCount(t *testing.T) {
	for _, l := range many() {
		for count := range 9 {
			s := bytesOf(uint64(count), l)
			if count <= len(l) {
				wantGet(t, s, l[:count], len(plainBytes(l[:count])))
			} else {
				wantNone(t, s, api.ErrShort, count)
			}
		}
	}
}

// Promise 11.2: each error of a kind's number, and each kind that is above 4, at each place, whatever is behind it.
func TestGetKinds(t *testing.T) {
	bad := list(api.Match{}, api.Match{Kind: 1}, api.Match{Kind: 4, Name: "a", Value: "1"}, api.Match{Kind: 2, Name: "A", Value: "\x00"}, api.Match{Kind: 3, Name: "\xFF"}, api.Match{}, api.Match{})
	for _, ahead := range [][]api.Match{row(7), bad} {
		for at := range 8 {
			for count := at + 1; count <= 8; count++ {
				s := bytesOf(uint64(count), ahead[:at])
				for _, kind := range []uint64{5, 6, 8, 255, 256, 257, 260, 1 << 16, 1<<32 + 1, 1 << 63, 1<<63 + 1, math.MaxUint64} {
					for _, behind := range []string{"", "\x00", "\x09", "\x01\x21", "\x01\x00", text("a") + text("1"), text("a"), text("A") + text("\x00")} {
						wantNone(t, s+plainNum(kind)+behind, api.ErrKind, at)
					}
				}
				behind := text("a") + text("1")
				wantNone(t, s, api.ErrShort, at)
				wantNone(t, s+"\x01", api.ErrShort, at)
				wantNone(t, s+"\x02\x05", api.ErrShort, at)
				wantNone(t, s+"\x09"+behind, api.ErrRange, at)
				wantNone(t, s+"\xFF"+behind, api.ErrRange, at)
				wantNone(t, s+"\x01\x00"+behind, api.ErrField, at)
				wantNone(t, s+"\x02\x00\x01"+behind, api.ErrField, at)
			}
		}
	}
}

// textFault is bytes that are no text, with the error at a name's place and at a value's.
type textFault struct {
	s           string
	name, value api.Errno
}

// textFaults is one of each kind, and of some several.
func textFaults() []textFault {
	return []textFault{
		{"", api.ErrShort, api.ErrShort},
		{"\x09", api.ErrRange, api.ErrRange},
		{"\xFF", api.ErrRange, api.ErrRange},
		{"\x09123456789", api.ErrRange, api.ErrRange},
		{"\x01", api.ErrShort, api.ErrShort},
		{"\x02\x01", api.ErrShort, api.ErrShort},
		{"\x02\x00", api.ErrShort, api.ErrShort},
		{"\x08\x01\x01\x01\x01\x01\x01\x01", api.ErrShort, api.ErrShort},
		{"\x01\x00", api.ErrField, api.ErrField},
		{"\x02\x00\x01a", api.ErrField, api.ErrField},
		{"\x08\x00\x00\x00\x00\x00\x00\x00\x01a", api.ErrField, api.ErrField},
		{"\x01\x21", api.ErrLong, api.ErrShort},
		{"\x01\x21" + long, api.ErrLong, api.ErrShort},
		{"\x01\x40" + full[:63], api.ErrLong, api.ErrShort},
		{"\x01\x41", api.ErrLong, api.ErrLong},
		{"\x01\x41" + full + "4", api.ErrLong, api.ErrLong},
		{"\x01\xFF", api.ErrLong, api.ErrLong},
		{"\x02\x01\x00", api.ErrLong, api.ErrLong},
		{"\x02\x01\x01a", api.ErrLong, api.ErrLong},
		{"\x05\x01\x00\x00\x00\x01a", api.ErrLong, api.ErrLong},
		{"\x08\x80\x00\x00\x00\x00\x00\x00\x01a", api.ErrLong, api.ErrLong},
		{"\x08\xFF\xFF\xFF\xFF\xFF\xFF\xFF\xFF", api.ErrLong, api.ErrLong},
		{"\x01\x01", api.ErrShort, api.ErrShort},
		{"\x01\x20" + long[:31], api.ErrShort, api.ErrShort},
	}
}

// Promise 11.2: each of GetText's errors, at each place of a name and of a value; what is wrong ahead of them with a kind of 0, with names and values is told behind them.
func TestGetTexts(t *testing.T) {
	bad := list(api.Match{Name: "a", Value: "1"}, api.Match{Kind: 1}, api.Match{Kind: 4, Name: "a", Value: "1"}, api.Match{Kind: 2, Name: "A", Value: "\x00"}, api.Match{Kind: 3, Name: "\xFF"}, api.Match{}, api.Match{Kind: 1, Name: "b", Value: "\n"})
	for _, ahead := range [][]api.Match{row(7), bad} {
		for at := range 8 {
			for count := at + 1; count <= 8; count++ {
				for kind := range uint64(5) {
					s := bytesOf(uint64(count), ahead[:at]) + plainNum(kind)
					for _, x := range textFaults() {
						wantNone(t, s+x.s, x.name, fmt.Sprintf("the name of matcher %d of %d", at, count))
						wantNone(t, s+text("a")+x.s, x.value, fmt.Sprintf("the value of matcher %d of %d", at, count))
						wantNone(t, s+text("A")+x.s, x.value, fmt.Sprintf("the value of matcher %d of %d", at, count))
						wantNone(t, s+text("")+x.s, x.value, fmt.Sprintf("the value of matcher %d of %d", at, count))
					}
				}
			}
		}
	}
}

// Promise 11.2: what Check finds is told behind all matchers' bytes: the first that is wrong says it.
func TestGetChecks(t *testing.T) {
	for _, x := range faults() {
		m := x.m
		if m.Kind < 0 || m.Kind > 4 || len(m.Name) > 32 || len(m.Value) > 64 {
			continue
		}
		for count := 1; count <= 8; count++ {
			for at := range count {
				l := row(count)
				l[at] = m
				s := plainBytes(l)
				wantNone(t, s, x.e, at)
				wantNone(t, s+"\x09", x.e, at)
				wantNone(t, s[:len(s)-1], api.ErrShort, at)
				for behind := at + 1; behind < count; behind++ {
					l[behind] = api.Match{Kind: 1, Name: "A"}
					wantNone(t, plainBytes(l), x.e, at)
					l[behind] = api.Match{Name: "a"}
					wantNone(t, plainBytes(l), x.e, at)
					l[behind] = api.Match{Kind: 7, Name: "a"}
					wantNone(t, plainBytes(l), api.ErrKind, at)
					l[behind] = equal("a", full+"4")
					wantNone(t, plainBytes(l), api.ErrLong, at)
					l[behind] = equal(long+"f", "1")
					wantNone(t, plainBytes(l), api.ErrLong, at)
					l[behind] = row(count)[behind]
				}
			}
		}
	}
}

// Promise 11.2: of several errors the one that stands ahead in the bytes.
func TestGetFirstFault(t *testing.T) {
	for _, x := range []struct {
		name string
		s    string
		e    api.Errno
	}{
		{"no matchers, and bytes that are none", "\x00\x09", api.OK},
		{"nine, and a kind above 4", "\x01\x09\x01\x05", api.ErrLong},
		{"a kind above 4, then nothing", "\x01\x01\x01\x05", api.ErrKind},
		{"a kind above 4, and a name too long", "\x01\x01\x01\x05" + text(long+"f") + text("1"), api.ErrKind},
		{"a name too long, the next kind above 4", "\x01\x02" + one(1, long+"f", "1") + one(5, "a", "1"), api.ErrLong},
		{"a value too long, the next kind above 4", "\x01\x02" + one(1, "a", full+"4") + one(5, "a", "1"), api.ErrLong},
		{"a kind above 4, the next name too long", "\x01\x02" + one(5, "a", "1") + one(1, long+"f", "1"), api.ErrKind},
		{"a kind of 0, the next above 4", "\x01\x02" + one(0, "a", "1") + one(5, "a", "1"), api.ErrKind},
		{"a kind of 0, the next name too long", "\x01\x02" + one(0, "a", "1") + one(1, long+"f", "1"), api.ErrLong},
		{"a kind of 0, the next one cut", "\x01\x02" + one(0, "a", "1") + "\x01\x01", api.ErrShort},
		{"a kind of 0, the next name wrong", "\x01\x02" + one(0, "a", "1") + one(1, "A", "1"), api.ErrKind},
		{"a name wrong, the next kind 0", "\x01\x02" + one(1, "A", "1") + one(0, "a", "1"), api.ErrField},
		{"a name wrong, the next kind above 4", "\x01\x02" + one(1, "A", "1") + one(5, "a", "1"), api.ErrKind},
		{"a kind of 0, a name and value wrong", "\x01\x01" + one(0, "A", "\x00"), api.ErrKind},
		{"an empty name", "\x01\x01" + one(1, "", "1"), api.ErrField},
		{"an empty name and value", "\x01\x01" + one(2, "", ""), api.ErrField},
		{"a value of MAny", "\x01\x01" + one(4, "a", "1"), api.ErrField},
		{"a value of MAny too long", "\x01\x01" + one(4, "a", full+"4"), api.ErrLong},
		{"a value of MAny with nothing", "\x01\x01" + one(4, "a", ""), api.OK},
		{"a kind with a nought in front", "\x01\x01\x02\x00\x01" + text("A") + text("1"), api.ErrField},
		{"a kind of nine digits", "\x01\x01\x09" + text("a") + text("1"), api.ErrRange},
	} {
		if e := wantPlain(t, x.s); e != x.e {
			t.Errorf("%s: %v by another way; want %v", x.name, e, x.e)
		}
		if _, _, e := Get(x.s); e != x.e {
			t.Errorf("%s: %v; want %v", x.name, e, x.e)
		}
	}
}

// Promise 11.2: each byte changed in each way, against another way; each error is told by some of them.
func TestGetEachByte(t *testing.T) {
	var seen [20]int
	for _, l := range [][]api.Match{nil, list(equal("a", "1")), list(some("a")), list(equal("a", "1"), not("b", "2")), list(prefix("job", "no"), some("k"), not("k_", " ~")), row(8), great(2)} {
		s := []byte(plainBytes(l))
		for at, right := range s {
			for c := range 256 {
				s[at] = byte(c)
				seen[wantPlain(t, string(s))]++
			}
			s[at] = right
		}
	}
	for _, e := range []api.Errno{api.OK, api.ErrShort, api.ErrRange, api.ErrField, api.ErrKind, api.ErrLong} {
		if seen[e] == 0 {
			t.Errorf("no byte led to %v", e)
		}
	}
}

// likely is bytes that may be matchers': so many told, of which few are wrong.
func likely(seed int) string {
	names := []string{"a", "b", "c", "ab", "_", "job", "z", "", "A", long, "ba", "cc"}
	values := []string{"1", "2", " ", "~", full, "x y", "", "\x7F", "\x1F", "", "11", ""}
	count := mixed(seed) % 5
	s := plainNum(count)
	for i := range int(count) {
		c := mixed(seed + 10*i + 7)
		value := values[c>>20%16%12]
		kind := 1 + c>>40%4
		if kind == api.MAny && c>>44%4 != 0 {
			value = ""
		}
		if c>>50%32 == 0 {
			kind = c >> 55 % 8
		}
		s += one(kind, names[c%12], value)
	}
	switch c := mixed(seed + 77); c % 16 {
	case 0:
		return s + string([]byte{byte(c >> 8)})
	case 1:
		return s[:c>>8%uint64(len(s)+1)]
	case 2:
		b := []byte(s)
		b[c>>8%uint64(len(b))] = byte(c >> 40)
		return string(b)
	}
	return s
}

// Promise 11.2: any bytes, and such as are nearly matchers', against another way.
func TestGetIsPlain(t *testing.T) {
	var seen [20]int
	for i := range 100_000 {
		seen[wantPlain(t, likely(i))]++
		var b []byte
		for j := range i % 20 {
			b = append(b, byte(mixed(i*20+j)>>(mixed(i+j)%8))&byte(mixed(i)))
		}
		wantPlain(t, string(b))
		wantPlain(t, plainNum(uint64(i%10))+string(b))
	}
	for _, e := range []api.Errno{api.OK, api.ErrShort, api.ErrField, api.ErrKind} {
		if seen[e] < 300 {
			t.Errorf("%v was told %d times alone", e, seen[e])
		}
	}
}

// Promise 11.2: all bytes of up to two, and all short rows of the bytes that matchers are made of, against another way.
func TestGetAllShort(t *testing.T) {
	for n := range 1 << 16 {
		wantPlain(t, string([]byte{byte(n >> 8), byte(n)}))
		wantPlain(t, string([]byte{1, 1, byte(n >> 8), byte(n)}))
		wantPlain(t, string([]byte{1, 1, 1, byte(n >> 8), 1, 'a', 1, 1, byte(n)}))
		wantPlain(t, string([]byte{1, 1, 1, 1, 1, 1, byte(n >> 8), 1, 1, byte(n)}))
	}
	for n := range 1 << 8 {
		wantPlain(t, string([]byte{byte(n)}))
	}
	const signs = "\x00\x01\x04a"
	for size := range 10 {
		for n := range 1 << (2 * size) {
			b := make([]byte, size)
			for i := range b {
				b[i] = signs[n>>(2*i)&3]
			}
			wantPlain(t, string(b))
		}
	}
}

// Promise 11.2: bytes that are longer than any matchers' are gone through as the chapter says (R6).
func TestGetLong(t *testing.T) {
	for _, size := range []int{257, 1 << 16, 1 << 20} {
		much := strings.Repeat("a", size)
		for _, l := range [][]api.Match{nil, row(1), row(8), great(8)} {
			wantGet(t, plainBytes(l)+much, l, len(plainBytes(l)))
		}
		wantNone(t, bytesOf(1, nil)+one(1, much, "1"), api.ErrLong, size)
		wantNone(t, bytesOf(1, nil)+one(1, "a", much), api.ErrLong, size)
		wantNone(t, bytesOf(8, row(7))+one(4, "z", much), api.ErrLong, size)
		wantNone(t, bytesOf(8, row(7))+one(4, much, ""), api.ErrLong, size)
		wantNone(t, bytesOf(1, nil)+much, api.ErrRange, size)
		wantNone(t, much, api.ErrRange, size)
		wantGet(t, strings.Repeat("\x00", size), nil, 1)
		wantPlain(t, strings.Repeat("\x01", size))
		wantNone(t, bytesOf(uint64(size), row(size%26+1)), api.ErrLong, size)
	}
}

// Promises 11.1, 11.2: what is handed in is not changed, what lies behind its end neither; what is handed out is not kept (R4).
func TestApart(t *testing.T) {
	room, pairs := great(8), labels("a", "1", "b", "2", "c", "3", "c", "4")
	all, allPairs := slices.Clone(room), slices.Clone(pairs)
	for end := range len(room) + 1 {
		Check(room[:end])
		Encode(room[:end])
		Is(room[:end], pairs[:end/2])
		Is(row(end), pairs[:end/2])
	}
	room[4] = some("A")
	Check(room)
	Encode(room)
	Is(room, pairs)
	room[4] = all[4]
	if !slices.Equal(room, all) || !slices.Equal(pairs, allPairs) {
		t.Error("what was handed in has been changed")
	}
	s := plainBytes(all)
	a, _, _ := Get(s)
	b, _, _ := Get(s)
	clear(a)
	_ = append(a[:1], row(3)...)
	if !slices.Equal(b, all) {
		t.Error("two answers of Get share memory")
	}
	wantGet(t, s, all, len(s))
}

// Promise 11.3: with more matchers no more labels are asked for: what holds still holds when matchers are taken away, and what doesn't does not with more of them.
func TestMoreAskForLess(t *testing.T) {
	fewer, same := 0, 0
	for seed := range 3000 {
		var l []api.Match
		for i := range 5 {
			c := mixed(seed*10 + i)
			m := api.Match{Kind: kinds[c%4], Name: []string{"a", "b", "job", "z"}[c>>2%4]}
			if m.Kind != api.MAny {
				m.Value = []string{"", "1", "2", "node", "n"}[c>>10%5]
			}
			l = append(l, m)
		}
		for _, pairs := range someLabels() {
			for count := range l {
				less, more := Is(l[:count], pairs), Is(l[:count+1], pairs)
				switch {
				case more && !less:
					t.Errorf("%s asks for %s, but without the last one it does not", brief(l[:count+1]), briefLabels(pairs))
				case less && !more:
					fewer++
				default:
					same++
				}
				without := slices.Delete(slices.Clone(l), count, count+1)
				if Is(l, pairs) && !Is(without, pairs) {
					t.Errorf("%s asks for %s, but without number %d it does not", brief(l), briefLabels(pairs), count)
				}
			}
		}
	}
	if fewer < 1000 || same < 1000 {
		t.Errorf("fewer were asked for %d times, the same %d times", fewer, same)
	}
}

// Promise 11.3: Get of Encode is the matchers, whatever is behind their bytes.
func TestGetOfEncode(t *testing.T) {
	for seed := range 20_000 {
		l := anyMatchers(seed%9, 9*seed)
		s, e := Encode(l)
		if e != api.OK {
			t.Fatalf("%s: %v", brief(l), e)
		}
		wantGet(t, s, l, len(s))
		wantGet(t, s+anyValue(seed%7, seed), l, len(s))
	}
	for _, l := range many() {
		s, _ := Encode(l)
		wantGet(t, s, l, len(s))
	}
}

// Promise 11.3: whatever is got is encoded again as it was; matchers that differ have other bytes.
func TestEncodeOfGet(t *testing.T) {
	got := 0
	seen := make(map[string]string)
	for i := range 100_000 {
		s := likely(i)
		l, size, e := Get(s)
		if e != api.OK {
			continue
		}
		got++
		wantEncode(t, l, s[:size])
		tells := brief(l)
		if other := seen[s[:size]]; other != "" && other != tells {
			t.Errorf("%s and %s have the same bytes", other, tells)
		}
		seen[s[:size]] = tells
	}
	if got < 1000 {
		t.Errorf("%d alone were got", got)
	}
}

// FuzzMatchers: any bytes against another way, and encoded again as they were; any matchers of them checked, encoded and asked against another way.
func FuzzMatchers(f *testing.F) {
	for _, l := range [][]api.Match{nil, list(equal("a", "1")), list(equal("a", "1"), not("b", "2")), list(prefix("job", "no"), some("zone")), great(2), list(api.Match{Kind: 5, Name: "a"})} {
		f.Add(plainBytes(l), 1, "a", "1", "a,1,b,2")
	}
	f.Add("\x00", 4, "a", "", "\xff,\x00")
	f.Fuzz(func(t *testing.T, s string, kind int, name, value, pairs string) {
		if wantPlain(t, s) == api.OK {
			l, size, _ := Get(s)
			wantEncode(t, l, s[:size])
		}
		own := labels(strings.Split(pairs, ",")...)
		for _, l := range [][]api.Match{list(api.Match{Kind: kind, Name: name, Value: value}), list(equal("a", value), api.Match{Kind: kind, Name: name}), list(prefix(name, value), not("b", value))} {
			e := plainCheck(l)
			wantCheck(t, l, e)
			if e == api.OK {
				wantEncode(t, l, plainBytes(l))
				wantGet(t, plainBytes(l)+s, l, len(plainBytes(l)))
			}
			wantIs(t, l, own, plainIs(l, own))
		}
	})
}

// Labels are asked for by matchers, all of which must hold; matchers are encoded, and got again from the front of bytes.
func Example() {
	l := []api.Match{{Kind: api.MEqual, Name: "job", Value: "node"}, {Kind: api.MNot, Name: "zone", Value: "eu"}}
	fmt.Println(Is(l, []api.Pair{{Name: "job", Value: "node"}}), Is(l, []api.Pair{{Name: "job", Value: "node"}, {Name: "zone", Value: "eu"}}))
	s, e := Encode(l)
	again, size, g := Get(s + "what is behind them")
	fmt.Println(len(s), e == api.OK, again, size, g == api.OK)
	fmt.Println(Check([]api.Match{{Kind: 5, Name: "job"}}), Check([]api.Match{{Kind: api.MAny, Name: "job", Value: "node"}}))
	// Output:
	// true false
	// 27 true [{1 job node} {2 zone eu}] 27 true
	// error 5 error 3
}
