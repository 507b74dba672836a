package record

import (
	"fmt"
	"math"
	"math/big"
	"regexp"
	"slices"
	"strings"
	"testing"

	"barograph/api"
)

// plainNum is a number's bytes.
func plainNum(n uint64) string {
	b := new(big.Int).SetUint64(n).Bytes()
	return string(append([]byte{byte(len(b))}, b...))
}

// plainSigned is the bytes of a number with a sign: twice the number, or one less than twice what is below 0.
func plainSigned(n int64) string {
	b := new(big.Int).Lsh(big.NewInt(n), 1)
	if n < 0 {
		b.Not(b)
	}
	return plainNum(b.Uint64())
}

// text is a text's bytes.
func text(s string) string { return plainNum(uint64(len(s))) + s }

// labelBytes is the bytes of pairs, whether or not they are labels.
func labelBytes(l []api.Pair) string {
	s := plainNum(uint64(len(l)))
	for _, p := range l {
		s += text(p.Name) + text(p.Value)
	}
	return s
}

// sampleBytes is the bytes of a sample, whether or not its labels are right.
func sampleBytes(x api.Sample) string {
	return text(labelBytes(x.Labels)) + plainSigned(x.T) + plainNum(x.V)
}

// commitOf is bytes that tell so many samples, with these ones.
func commitOf(count uint64, l []api.Sample) string {
	s := "\x01\x01" + plainNum(count)
	for _, x := range l {
		s += sampleBytes(x)
	}
	return s
}

// matchBytes is the bytes of matchers, whether or not they are right.
func matchBytes(l []api.Match) string {
	s := plainNum(uint64(len(l)))
	for _, m := range l {
		s += plainNum(uint64(m.Kind)) + text(m.Name) + text(m.Value)
	}
	return s
}

// plainBytes is the bytes of a commit or a delete, whether or not it is right.
func plainBytes(r api.Record) string {
	if r.Kind == api.RCommit {
		return commitOf(uint64(len(r.Samples)), r.Samples)
	}
	return "\x01\x02" + matchBytes(r.Matches) + plainSigned(r.From) + plainSigned(r.To)
}

var (
	plainName  = regexp.MustCompile(`\A[_abcdefghijklmnopqrstuvwxyz]{1,32}\z`)
	plainValue = regexp.MustCompile(`\A[\x20-\x7E]{0,64}\z`)
)

// plainLabels tells whether pairs are labels: a name alone rises above what stands ahead of it, if it is the same when sorted, and none is there twice.
func plainLabels(l []api.Pair) bool {
	if len(l) == 0 || len(l) >= 9 {
		return false
	}
	var names []string
	for _, p := range l {
		if !plainName.MatchString(p.Name) || !plainValue.MatchString(p.Value) || p.Value == "" {
			return false
		}
		names = append(names, p.Name)
	}
	sorted := slices.Compact(slices.Sorted(slices.Values(names)))
	return slices.Equal(names, sorted)
}

// plainMatches tells what is wrong with matchers.
func plainMatches(l []api.Match) api.Errno {
	if len(l) >= 9 {
		return api.ErrLong
	}
	for _, m := range l {
		switch {
		case !slices.Contains([]int{1, 2, 3, 4}, m.Kind):
			return api.ErrKind
		case !plainName.MatchString(m.Name), !plainValue.MatchString(m.Value), m.Kind == 4 && len(m.Value) > 0:
			return api.ErrField
		}
	}
	return api.OK
}

// plainCheck is Check by another way: all that may be wrong with a record of its kind, and then the first of it that is.
func plainCheck(r api.Record) api.Errno {
	type ask struct {
		wrong bool
		e     api.Errno
	}
	var asks []ask
	switch r.Kind {
	case 1:
		wrong := slices.ContainsFunc(r.Samples, func(x api.Sample) bool { return !plainLabels(x.Labels) })
		asks = []ask{{len(r.Matches) != 0 || r.From != 0 || r.To != 0, api.ErrField}, {len(r.Samples) == 0 || len(r.Samples) > 32, api.ErrRange}, {wrong, api.ErrLabel}}
	case 2:
		e := plainMatches(r.Matches)
		asks = []ask{{len(r.Samples) != 0, api.ErrField}, {e != api.OK, e}, {r.To < r.From, api.ErrOrder}}
	default:
		return api.ErrKind
	}
	for _, a := range asks {
		if a.wrong {
			return a.e
		}
	}
	return api.OK
}

// plain is bytes that are read on, till something is wrong: then that stays, and all that is read is nothing.
type plain struct {
	s string
	e api.Errno
}

// fail says what is wrong, if nothing was so ahead of it.
func (p *plain) fail(wrong bool, e api.Errno) {
	if wrong && p.e == api.OK {
		p.e = e
	}
}

// take is so many bytes.
func (p *plain) take(size uint64) string {
	p.fail(size > uint64(len(p.s)), api.ErrShort)
	if p.e != api.OK {
		return ""
	}
	s := p.s[:size]
	p.s = p.s[size:]
	return s
}

// num is a number: any up to 8 digits, if it is written again as it was.
func (p *plain) num() uint64 {
	head := p.take(1)
	p.fail(head > "\x08", api.ErrRange)
	if p.e != api.OK {
		return 0
	}
	own := p.take(uint64(head[0]))
	n := new(big.Int).SetBytes([]byte(own)).Uint64()
	p.fail(plainNum(n) != head+own, api.ErrField)
	return n
}

// signed is a number with a sign.
func (p *plain) signed() int64 {
	n := p.num()
	if n%2 == 1 {
		return -int64(n/2) - 1
	}
	return int64(n / 2)
}

// text is a text of at most so many bytes.
func (p *plain) text(most uint64) string {
	n := p.num()
	p.fail(n > most, api.ErrLong)
	return p.take(n)
}

// labels is labels that fill a text of their own.
func (p *plain) labels() []api.Pair {
	own := plain{s: p.text(1024), e: p.e}
	count := own.num()
	own.fail(count < 1 || count > 8, api.ErrLabel)
	var l []api.Pair
	for range min(count, 8) {
		l = append(l, api.Pair{Name: own.text(32), Value: own.text(64)})
	}
	own.fail(own.s != "", api.ErrMore)
	own.fail(!plainLabels(l), api.ErrLabel)
	p.e = own.e
	return l
}

// matches is matchers.
func (p *plain) matches() []api.Match {
	count := p.num()
	p.fail(count > 8, api.ErrLong)
	var l []api.Match
	for range min(count, 8) {
		kind := p.num()
		p.fail(kind > 4, api.ErrKind)
		l = append(l, api.Match{Kind: int(kind), Name: p.text(32), Value: p.text(64)})
	}
	e := plainMatches(l)
	p.fail(e != api.OK, e)
	return l
}

// plainDecode is Decode by another way: what is wrong is kept, and all is read.
func plainDecode(s string) (api.Record, api.Errno) {
	p := plain{s: s}
	var r api.Record
	switch kind := p.num(); kind {
	case 1:
		r.Kind = 1
		count := p.num()
		p.fail(count == 0 || count >= 33, api.ErrRange)
		for range min(count, 32) {
			r.Samples = append(r.Samples, api.Sample{Labels: p.labels(), T: p.signed(), V: p.num()})
		}
	case 2:
		r = api.Record{Kind: 2, Matches: p.matches(), From: p.signed(), To: p.signed()}
	default:
		p.fail(true, api.ErrKind)
	}
	p.fail(p.s != "", api.ErrMore)
	e := plainCheck(r)
	p.fail(e != api.OK, e)
	if p.e != api.OK {
		return api.Record{}, p.e
	}
	return r, api.OK
}

// plainSpan is Span by another way: all times that a record has, in their order.
func plainSpan(r api.Record) (int64, int64) {
	times := []int64{r.From, r.To}
	if r.Kind == api.RCommit {
		times = nil
		for _, x := range r.Samples {
			times = append(times, x.T)
		}
	}
	if plainCheck(r) != api.OK {
		return 0, 0
	}
	slices.Sort(times)
	return times[0], times[len(times)-1]
}

// same tells whether two records are the same, be their empty lists nil or not.
func same(a, b api.Record) bool {
	return a.Kind == b.Kind && a.From == b.From && a.To == b.To && slices.Equal(a.Matches, b.Matches) && slices.EqualFunc(a.Samples, b.Samples, sameSample)
}

// sameSample tells whether two samples are the same.
func sameSample(a, b api.Sample) bool {
	return a.T == b.T && a.V == b.V && slices.Equal(a.Labels, b.Labels)
}

// mixed is a number that looks like any, the same one for the same i.
func mixed(i int) uint64 {
	x := (uint64(i) + 1) * 0x9E3779B97F4A7C15
	x = (x ^ x>>30) * 0xBF58476D1CE4E5B9
	x = (x ^ x>>27) * 0x94D049BB133111EB
	return x ^ x>>31
}

// labels is pairs of names and values that stand by turns.
func labels(texts ...string) []api.Pair {
	var l []api.Pair
	for i := 0; i+1 < len(texts); i += 2 {
		l = append(l, api.Pair{Name: texts[i], Value: texts[i+1]})
	}
	return l
}

// at is a sample of the labels a=1.
func at(t int64, v uint64) api.Sample { return api.Sample{Labels: labels("a", "1"), T: t, V: v} }

// commit is a commit of samples.
func commit(l ...api.Sample) api.Record { return api.Record{Kind: api.RCommit, Samples: l} }

// cut is a delete of what matchers ask for.
func cut(from, to int64, l ...api.Match) api.Record {
	return api.Record{Kind: api.RDelete, Matches: l, From: from, To: to}
}

func equal(name, value string) api.Match {
	return api.Match{Kind: api.MEqual, Name: name, Value: value}
}
func some(name string) api.Match { return api.Match{Kind: api.MAny, Name: name} }

const (
	nameSigns = "_abcdefghijklmnopqrstuvwxyz"
	// full is as many signs as a value may have.
	full = "0123456789012345678901234567890123456789012345678901234567890123"
	// long is as many signs as a name may have, but for the last one.
	long = "abcdefghijklmnopqrstuvwxyz_abcd"
	// last and first are the greatest and the least time.
	last  = math.MaxInt64
	first = math.MinInt64
)

// fullLabels is as many labels as there may be, with the longest names and values.
func fullLabels() []api.Pair {
	var l []api.Pair
	for _, sign := range "_abcdxyz" {
		l = append(l, api.Pair{Name: long + string(sign), Value: full})
	}
	return l
}

// anyText is a text of so many of these signs.
func anyText(signs string, size, seed int) string {
	var b []byte
	for i := range size {
		b = append(b, signs[mixed(i+seed)%uint64(len(signs))])
	}
	return string(b)
}

// valueSigns is all signs that a value may have.
func valueSigns() string {
	var b []byte
	for c := byte(' '); c <= '~'; c++ {
		b = append(b, c)
	}
	return string(b)
}

// anyLabels is labels of so many pairs.
func anyLabels(count, seed int) []api.Pair {
	var l []api.Pair
	for i := range count {
		c := mixed(seed + 1000*i)
		l = append(l, api.Pair{Name: string(nameSigns[3*i+int(c%3)]) + anyText(nameSigns, int(c>>8%32), int(c>>16%3000)), Value: anyText(valueSigns(), 1+int(c>>28%64), int(c>>36%3000))})
	}
	return l
}

// anyMatchers is so many matchers.
func anyMatchers(count, seed int) []api.Match {
	var l []api.Match
	for i := range count {
		c := mixed(seed + 1000*i)
		m := api.Match{Kind: 1 + int(c%4), Name: anyText(nameSigns, 1+int(c>>2%32), int(c>>8%3000))}
		if m.Kind != api.MAny {
			m.Value = anyText(valueSigns(), int(c>>20%65), int(c>>30%3000))
		}
		l = append(l, m)
	}
	return l
}

// edges is numbers of 64 bits at which bytes or signs change.
func edges() []uint64 {
	l := []uint64{0, 1, 2, 3, math.MaxUint64, math.MaxUint64 - 1}
	for shift := 2; shift < 64; shift++ {
		l = append(l, 1<<shift-1, 1<<shift, 1<<shift+1)
	}
	return l
}

// anyNumber is a number of any length.
func anyNumber(seed int) uint64 { return mixed(seed) >> (mixed(seed+1) % 64) }

// anySample is a sample of so many labels.
func anySample(count, seed int) api.Sample {
	return api.Sample{Labels: anyLabels(count, seed), T: int64(anyNumber(seed)) * (1 - 2*int64(seed%2)), V: anyNumber(seed + 5)}
}

// anyRecord is a record that is right.
func anyRecord(seed int) api.Record {
	if seed%3 == 0 {
		from, to := int64(mixed(seed)), int64(mixed(seed+1))
		return cut(min(from, to), max(from, to), anyMatchers(seed/3%9, seed)...)
	}
	r := commit()
	for i := range 1 + seed/3%32 {
		r.Samples = append(r.Samples, anySample(1+(seed+i)%8, 100*seed+i))
	}
	return r
}

// row is so many samples with few labels.
func row(count int) []api.Sample {
	var l []api.Sample
	for i := range count {
		l = append(l, api.Sample{Labels: labels("a", fmt.Sprint(i)), T: int64(i*i - 40), V: uint64(i)})
	}
	return l
}

// matchRow is so many matchers with short names.
func matchRow(count int) []api.Match {
	return []api.Match{equal("a", "1"), {Kind: api.MNot, Name: "b"}, some("c"), {Kind: api.MPrefix, Name: "d", Value: "~"}, equal("e", ""), some("f"), {Kind: api.MNot, Name: "g", Value: " "}, equal("a", "2")}[:count]
}

// few is records that are right: one of each form.
func few() []api.Record {
	return []api.Record{
		commit(at(0, 0)),
		commit(at(5, 7), at(3, 0)),
		commit(at(1, 1), at(1, 1), at(1, 2)),
		commit(api.Sample{Labels: labels("job", "node", "zone", "eu"), T: 1 << 40, V: math.Float64bits(1.5)}),
		commit(row(32)...),
		cut(0, 0),
		cut(-1, 1),
		cut(first, last),
		cut(5, 5, equal("a", "1")),
		cut(-300, -299, matchRow(8)...),
	}
}

// many is records that are right: those few, with nothing in place of nil, of each count, at the limits, and any.
func many() []api.Record {
	l := append(few(),
		api.Record{Kind: api.RCommit, Samples: row(1), Matches: []api.Match{}},
		api.Record{Kind: api.RDelete, Samples: []api.Sample{}, Matches: []api.Match{}},
		commit(slices.Repeat([]api.Sample{{Labels: fullLabels(), T: first, V: math.MaxUint64}}, 32)...),
		cut(first, last, slices.Repeat([]api.Match{{Kind: api.MPrefix, Name: long + "e", Value: full}}, 8)...),
	)
	for _, n := range edges() {
		t := int64(n)
		l = append(l, commit(at(t, n)), commit(at(-t, n), at(t, n)), cut(t, t), cut(min(t, -t), max(t, -t)), cut(first, t), cut(t, last, equal("a", "1")))
	}
	for count := 1; count <= 32; count++ {
		l = append(l, commit(row(count)...), cut(int64(count), 40, anyMatchers(count%9, count)...))
	}
	for seed := range 300 {
		l = append(l, anyRecord(seed))
	}
	return l
}

// badLabels is pairs that are no labels, each in another way.
func badLabels() [][]api.Pair {
	return [][]api.Pair{
		nil,
		{},
		labels("", "1"),
		labels("a", ""),
		labels("A", "1"),
		labels("a", "\x7F"),
		labels("a", "\x1F"),
		labels("a1", "1"),
		labels("b", "2", "a", "1"),
		labels("a", "1", "a", "1"),
		labels("a", "1", "b", "2", "b", "3"),
		labels("a", "1", "b", ""),
		labels("", ""),
		anyLabels(9, 1),
		append(anyLabels(8, 1), labels("zzz", "1")...),
		labels(long+"ee", "1"),
		labels("a", full+"4"),
	}
}

// badMatches is matchers that are wrong, and what match.Check says of them.
func badMatches() []struct {
	l []api.Match
	e api.Errno
} {
	return []struct {
		l []api.Match
		e api.Errno
	}{
		{[]api.Match{{}}, api.ErrKind},
		{[]api.Match{{Name: "a", Value: "1"}}, api.ErrKind},
		{[]api.Match{{Kind: 5, Name: "a"}}, api.ErrKind},
		{[]api.Match{{Kind: -1, Name: "a"}}, api.ErrKind},
		{[]api.Match{{Kind: 1 << 33, Name: "a"}}, api.ErrKind},
		{[]api.Match{equal("", "1")}, api.ErrField},
		{[]api.Match{equal("A", "1")}, api.ErrField},
		{[]api.Match{equal("a", "\x7F")}, api.ErrField},
		{[]api.Match{{Kind: api.MAny, Name: "a", Value: "1"}}, api.ErrField},
		{[]api.Match{equal("a", "1"), some("A")}, api.ErrField},
		{[]api.Match{equal("a", "1"), {Kind: 9}}, api.ErrKind},
		{[]api.Match{equal("A", "1"), {Kind: 9}}, api.ErrField},
		{append(matchRow(8), some("z")), api.ErrLong},
		{append(matchRow(8), api.Match{}), api.ErrLong},
		{make([]api.Match, 9), api.ErrLong},
		{[]api.Match{equal(long+"ee", "1")}, api.ErrField},
		{[]api.Match{equal("a", full+"4")}, api.ErrField},
	}
}

// brief is a record as it is told beside a fault: what is ahead in it, and how much there is.
func brief(r api.Record) string {
	s := fmt.Sprintf("kind %d, %d samples, %d matchers, from %d to %d", r.Kind, len(r.Samples), len(r.Matches), r.From, r.To)
	for _, x := range r.Samples[:min(len(r.Samples), 4)] {
		s += fmt.Sprintf(", {%d pairs, %.40q %d %d}", len(x.Labels), x.Labels[:min(len(x.Labels), 3)], x.T, x.V)
	}
	for _, m := range r.Matches[:min(len(r.Matches), 4)] {
		s += fmt.Sprintf(", {%d %.40q %.40q}", m.Kind, m.Name, m.Value)
	}
	return s
}

// wantCheck checks a record; with an error it has no bytes, and no span.
func wantCheck(t *testing.T, r api.Record, want api.Errno) {
	t.Helper()
	if e := Check(r); e != want {
		t.Errorf("Check of %s: %v; want %v", brief(r), e, want)
	}
	if want == api.OK {
		return
	}
	if s, e := Encode(r); s != "" || e != want {
		t.Errorf("Encode of %s: %.200X, %v; want %v", brief(r), s, e, want)
	}
	wantSpan(t, r, 0, 0)
}

func wantSpan(t *testing.T, r api.Record, least, greatest int64) {
	t.Helper()
	if a, b := Span(r); a != least || b != greatest {
		t.Errorf("Span of %s: %d, %d; want %d, %d", brief(r), a, b, least, greatest)
	}
}

func wantEncode(t *testing.T, r api.Record, s string) {
	t.Helper()
	if got, e := Encode(r); got != s || e != api.OK {
		t.Errorf("Encode of %s: %.400X, %v; want %.400X", brief(r), got, e, s)
	}
}

func wantDecode(t *testing.T, s string, r api.Record) {
	t.Helper()
	if got, e := Decode(s); !same(got, r) || e != api.OK {
		t.Errorf("%.200X: %s, %v; want %s", s, brief(got), e, brief(r))
	}
}

func wantNone(t *testing.T, s string, want api.Errno, what any) {
	t.Helper()
	if r, e := Decode(s); !same(r, api.Record{}) || e != want {
		t.Errorf("%v: %.200X: %s, %v; want %v", what, s, brief(r), e, want)
	}
}

// wantPlain decodes bytes, and holds the answer against another way; it tells the error.
func wantPlain(t *testing.T, s string) api.Errno {
	t.Helper()
	r, e := plainDecode(s)
	if e == api.OK {
		wantDecode(t, s, r)
	} else {
		wantNone(t, s, e, "by another way it is an error")
	}
	return e
}

// Promise 12.1: the chapter's examples.
func TestExamples(t *testing.T) {
	wantEncode(t, cut(-1, 1), "\x01\x02\x00\x01\x01\x01\x02")
	wantDecode(t, "\x01\x02\x00\x01\x01\x01\x02", cut(-1, 1))
	wantCheck(t, commit(), api.ErrRange)
	wantCheck(t, commit([]api.Sample{}...), api.ErrRange)
	wantNone(t, "\x01\x01\x00", api.ErrRange, "no sample")
}

// Promise 12.1: records of many kinds are right; in a commit any times and values may stand, and the same labels twice.
func TestRight(t *testing.T) {
	for _, r := range many() {
		if e := plainCheck(r); e != api.OK {
			t.Fatalf("%s: by another way %v", brief(r), e)
		}
		wantCheck(t, r, api.OK)
	}
}

// Promise 12.1: each kind; of one that is none ErrKind, whatever else is wrong.
func TestCheckKinds(t *testing.T) {
	all := []int{math.MaxInt, math.MinInt, math.MinInt + 1, math.MinInt + 2}
	for kind := -300; kind <= 300; kind++ {
		all = append(all, kind)
	}
	for shift := 8; shift < 63; shift++ {
		for near := -2; near <= 2; near++ {
			all = append(all, 1<<shift+near, -1<<shift+near)
		}
	}
	for _, kind := range all {
		if kind == 1 || kind == 2 {
			continue
		}
		for _, r := range append(few(), commit(), commit(api.Sample{}), cut(2, 1), cut(0, 0, api.Match{}), api.Record{Samples: row(33), Matches: make([]api.Match, 9), From: 2, To: 1}) {
			r.Kind = kind
			wantCheck(t, r, api.ErrKind)
		}
	}
	wantCheck(t, api.Record{}, api.ErrKind)
	wantCheck(t, api.Record{Kind: 1}, api.ErrRange)
	wantCheck(t, api.Record{Kind: 2}, api.OK)
}

// Promise 12.1: what belongs to a delete is ErrField in a commit, each part alone, whatever is wrong with the samples.
func TestCommitWithOther(t *testing.T) {
	for _, l := range [][]api.Sample{nil, {}, row(1), row(32), row(33), {{}}, append(row(3), api.Sample{Labels: labels("A", "1")}), make([]api.Sample, 300)} {
		for _, m := range [][]api.Match{matchRow(1), matchRow(8), {{}}, make([]api.Match, 9), {equal("A", "")}} {
			wantCheck(t, api.Record{Kind: api.RCommit, Samples: l, Matches: m}, api.ErrField)
			wantCheck(t, api.Record{Kind: api.RCommit, Samples: l, Matches: m, From: 1, To: 2}, api.ErrField)
		}
		for _, n := range edges() {
			if n == 0 {
				continue
			}
			time := int64(n)
			wantCheck(t, api.Record{Kind: api.RCommit, Samples: l, From: time}, api.ErrField)
			wantCheck(t, api.Record{Kind: api.RCommit, Samples: l, To: time}, api.ErrField)
			wantCheck(t, api.Record{Kind: api.RCommit, Samples: l, From: time, To: time}, api.ErrField)
			wantCheck(t, api.Record{Kind: api.RCommit, Samples: l, From: time, To: -time}, api.ErrField)
		}
	}
}

// Promise 12.1: samples are ErrField in a delete, whatever is wrong with them, with its matchers and its times.
func TestDeleteWithOther(t *testing.T) {
	for _, l := range [][]api.Sample{row(1), row(2), row(32), row(33), {{}}, {{Labels: labels("A", "1")}}, make([]api.Sample, 300)} {
		for _, m := range [][]api.Match{nil, {}, matchRow(8), {{}}, make([]api.Match, 9), {equal("A", "")}} {
			for _, times := range [][2]int64{{0, 0}, {-1, 1}, {1, -1}, {last, first}} {
				wantCheck(t, api.Record{Kind: api.RDelete, Samples: l, Matches: m, From: times[0], To: times[1]}, api.ErrField)
			}
		}
	}
}

// Promise 12.1: from 1 to 32 samples, also of a great many (R6); other numbers are ErrRange, also where labels are none.
func TestCheckCounts(t *testing.T) {
	for count := range 400 {
		want, bad := api.OK, api.ErrLabel
		if count < 1 || count > 32 {
			want, bad = api.ErrRange, api.ErrRange
		}
		wantCheck(t, commit(row(count)...), want)
		wantCheck(t, commit(slices.Repeat([]api.Sample{at(1, 1)}, count)...), want)
		wantCheck(t, commit(make([]api.Sample, count)...), bad)
	}
	for _, count := range []int{1 << 16, 1<<16 + 1, 1<<16 + 32, 1 << 20} {
		wantCheck(t, commit(make([]api.Sample, count)...), api.ErrRange)
		wantCheck(t, commit(slices.Repeat([]api.Sample{at(1, 1)}, count)...), api.ErrRange)
	}
}

// Promise 12.1: labels that are none, at each place.
func TestCheckLabels(t *testing.T) {
	for _, bad := range badLabels() {
		if plainLabels(bad) {
			t.Fatalf("%q are labels", bad)
		}
		for count := 1; count <= 32; count++ {
			for at := range count {
				l := row(count)
				l[at].Labels = bad
				wantCheck(t, commit(l...), api.ErrLabel)
			}
		}
		wantCheck(t, commit(slices.Repeat([]api.Sample{{Labels: bad}}, 32)...), api.ErrLabel)
	}
	wantCheck(t, commit(api.Sample{Labels: make([]api.Pair, 1<<20)}), api.ErrLabel)
	wantCheck(t, commit(api.Sample{Labels: labels("a", strings.Repeat("x", 1<<20))}), api.ErrLabel)
}

// Promise 12.1: match.Check's errors, also where From is above To.
func TestCheckMatches(t *testing.T) {
	great := []int{10, 255, 256, 257, 264, 1 << 16, 1<<16 + 8, 1 << 20}
	for _, count := range great {
		wantCheck(t, cut(0, 1, slices.Repeat(matchRow(1), count)...), api.ErrLong)
		wantCheck(t, cut(1, 0, make([]api.Match, count)...), api.ErrLong)
	}
	for _, x := range badMatches() {
		for _, times := range [][2]int64{{0, 0}, {-1, 1}, {1, -1}, {last, first}} {
			wantCheck(t, cut(times[0], times[1], x.l...), x.e)
		}
	}
}

// Promise 12.1: From may be To, or below it; above it it is ErrOrder.
func TestCheckOrder(t *testing.T) {
	times := []int64{first, first + 1, -1 << 32, -2, -1, 0, 1, 2, 1 << 31, 1 << 32, last - 1, last}
	for i, from := range times {
		for j, to := range times {
			want := api.OK
			if i > j {
				want = api.ErrOrder
			}
			for count := range 9 {
				wantCheck(t, cut(from, to, matchRow(count)...), want)
			}
			if want == api.OK {
				wantSpan(t, cut(from, to), from, to)
				wantDecode(t, plainBytes(cut(from, to)), cut(from, to))
			} else {
				wantNone(t, plainBytes(cut(from, to)), api.ErrOrder, "from above to")
			}
		}
	}
}

// Promise 12.1: records that are wrong in several ways, against another way.
func TestCheckIsPlain(t *testing.T) {
	var seen [20]int
	for i := range 100_000 {
		r := anyWrong(i)
		e := plainCheck(r)
		seen[e]++
		wantCheck(t, r, e)
		if e == api.OK {
			wantEncode(t, r, plainBytes(r))
		}
		least, greatest := plainSpan(r)
		wantSpan(t, r, least, greatest)
	}
	for _, e := range []api.Errno{api.OK, api.ErrKind, api.ErrField, api.ErrRange, api.ErrLabel, api.ErrOrder, api.ErrLong} {
		if seen[e] < 100 {
			t.Errorf("%v was told %d times alone", e, seen[e])
		}
	}
}

// anyWrong is a record each of whose parts may be wrong, and may not.
func anyWrong(seed int) api.Record {
	c := mixed(seed)
	r := api.Record{Kind: int(1 + c%2)}
	if c>>2%16 == 0 {
		r.Kind = int(c >> 8 % 5)
	}
	if r.Kind == api.RCommit || c>>12%16 == 0 {
		r.Samples = row(int([]uint64{1, 2, 3, c >> 20 % 40}[c>>16%4]))
		if c>>30%8 == 0 && len(r.Samples) > 0 {
			r.Samples[int(c>>34%40)%len(r.Samples)].Labels = badLabels()[c>>40%17]
		}
	}
	if r.Kind == api.RDelete || c>>45%16 == 0 {
		r.Matches = matchRow(int(c >> 20 % 9))
		if c>>30%8 == 0 {
			r.Matches = badMatches()[c>>40%17].l
		}
	}
	d := mixed(seed + 1)
	if r.Kind == api.RDelete || d%16 == 0 {
		r.From, r.To = int64(d>>8%5)-2, int64(d>>16%5)-1
	}
	return r
}

// Promise 12.1: records' bytes, written out.
func TestWritten(t *testing.T) {
	for _, x := range []struct {
		r api.Record
		s string
	}{
		{cut(-1, 1), "\x01\x02\x00\x01\x01\x01\x02"},
		{cut(0, 0), "\x01\x02\x00\x00\x00"},
		{cut(1, 1), "\x01\x02\x00\x01\x02\x01\x02"},
		{cut(-128, 128), "\x01\x02\x00\x01\xFF\x02\x01\x00"},
		{cut(first, last), "\x01\x02\x00\x08\xFF\xFF\xFF\xFF\xFF\xFF\xFF\xFF\x08\xFF\xFF\xFF\xFF\xFF\xFF\xFF\xFE"},
		{cut(0, 5, equal("a", "1")), "\x01\x02\x01\x01\x01\x01\x01\x01a\x01\x011\x00\x01\x0A"},
		{cut(2, 3, some("z"), equal("b", "")), "\x01\x02\x01\x02\x01\x04\x01\x01z\x00\x01\x01\x01\x01b\x00\x01\x04\x01\x06"},
		{commit(at(0, 0)), "\x01\x01\x01\x01\x01\x08\x01\x01\x01\x01a\x01\x011\x00\x00"},
		{commit(at(5, 7)), "\x01\x01\x01\x01\x01\x08\x01\x01\x01\x01a\x01\x011\x01\x0A\x01\x07"},
		{commit(at(-5, 256), at(5, math.MaxUint64)), "\x01\x01\x01\x02" + "\x01\x08\x01\x01\x01\x01a\x01\x011\x01\x09\x02\x01\x00" + "\x01\x08\x01\x01\x01\x01a\x01\x011\x01\x0A\x08\xFF\xFF\xFF\xFF\xFF\xFF\xFF\xFF"},
		{commit(api.Sample{Labels: labels("a", "1", "b", "2"), T: 1, V: 2}), "\x01\x01\x01\x01\x01\x0E\x01\x02\x01\x01a\x01\x011\x01\x01b\x01\x012\x01\x02\x01\x02"},
		{commit(slices.Repeat([]api.Sample{at(0, 0)}, 32)...), "\x01\x01\x01\x20" + strings.Repeat("\x01\x08\x01\x01\x01\x01a\x01\x011\x00\x00", 32)},
	} {
		wantEncode(t, x.r, x.s)
		wantDecode(t, x.s, x.r)
	}
}

// Promise 12.1: records of many kinds, against another way; with bytes behind them they are ErrMore.
func TestBytes(t *testing.T) {
	for _, r := range many() {
		s := plainBytes(r)
		wantEncode(t, r, s)
		wantDecode(t, s, r)
		for _, behind := range []string{"\x00", "\x01", "\x09", "\xFF", s} {
			wantNone(t, s+behind, api.ErrMore, "bytes are left")
		}
	}
}

// Promise 12.1: bytes that are cut at each place are ErrShort.
func TestDecodeCut(t *testing.T) {
	for _, r := range many() {
		s := plainBytes(r)
		for end := range len(s) {
			if end > 300 && end%29 != 0 && end < len(s)-20 {
				continue
			}
			wantNone(t, s[:end], api.ErrShort, "cut")
		}
	}
}

// numberFault is bytes that are no number, with the error.
type numberFault struct {
	s string
	e api.Errno
}

// numberFaults is one of each kind; those that are too short stand alone.
func numberFaults() []numberFault {
	l := []numberFault{{"", api.ErrShort}}
	for size := 1; size <= 8; size++ {
		head := string([]byte{byte(size)})
		l = append(l, numberFault{head, api.ErrShort}, numberFault{head + strings.Repeat("\x00", size-1), api.ErrShort})
		for _, behind := range []string{"", "\x01\x01", strings.Repeat("\x01", 50)} {
			l = append(l, numberFault{head + strings.Repeat("\x00", size) + behind, api.ErrField})
		}
	}
	for c := 9; c < 256; c++ {
		head := string([]byte{byte(c)})
		l = append(l, numberFault{head, api.ErrRange}, numberFault{head + strings.Repeat("\x01", 300), api.ErrRange})
	}
	return l
}

// Promise 12.1: each error of Kind's number, and each number that is no kind, whatever is behind it.
func TestDecodeKinds(t *testing.T) {
	for _, x := range numberFaults() {
		wantNone(t, x.s, x.e, "the kind")
	}
	all := []uint64{math.MaxUint64, math.MaxUint64 - 1, 1 << 63, 1<<63 + 1, 1<<63 + 2}
	for kind := range uint64(600) {
		all = append(all, kind)
	}
	for shift := 8; shift < 63; shift++ {
		all = append(all, 1<<shift, 1<<shift+1, 1<<shift+2)
	}
	for _, kind := range all {
		if kind == 1 || kind == 2 {
			continue
		}
		head := plainNum(kind)
		for _, behind := range []string{"", "\x00", "\x09", "\x01", "\x00\x00\x00", "\x01\x00", plainBytes(commit(row(2)...))[2:], plainBytes(cut(0, 1))[2:], plainBytes(cut(1, 0))[2:]} {
			wantNone(t, head+behind, api.ErrKind, kind)
		}
	}
	for _, n := range []string{"\x02\x00\x01", "\x02\x00\x02", "\x08\x00\x00\x00\x00\x00\x00\x00\x01"} {
		wantNone(t, n+plainBytes(cut(0, 1))[2:], api.ErrField, "noughts in front of a kind")
	}
}

// Promise 12.1: each error of the number of samples; one that is not from 1 to 32 is ErrRange, whatever is behind it.
func TestDecodeCount(t *testing.T) {
	for _, x := range numberFaults() {
		wantNone(t, "\x01\x01"+x.s, x.e, "how many samples")
	}
	all := []uint64{0, math.MaxUint64, 1 << 63, 1<<63 + 1, math.MaxUint64 - 31}
	for count := uint64(33); count < 600; count++ {
		all = append(all, count)
	}
	for shift := 8; shift < 63; shift++ {
		all = append(all, 1<<shift, 1<<shift+1, 1<<shift+32)
	}
	for _, count := range all {
		for _, behind := range []string{"", "\x00", "\x09", "\x01\x00", "\x02\x04\x01", sampleBytes(at(1, 1))} {
			wantNone(t, "\x01\x01"+plainNum(count)+behind, api.ErrRange, count)
		}
	}
	for count := range 100 {
		if count < 1 || count > 32 {
			wantNone(t, commitOf(uint64(count), row(count)), api.ErrRange, count)
		}
	}
}

// Promise 12.1: so many samples are decoded as are told: if there are fewer it is ErrShort, if there are more ErrMore.
func TestDecodeOtherCount(t *testing.T) {
	for told := 1; told <= 32; told++ {
		for count := range 34 {
			s := commitOf(uint64(told), row(count))
			switch {
			case count < told:
				wantNone(t, s, api.ErrShort, told)
			case count > told:
				wantNone(t, s, api.ErrMore, told)
			default:
				wantDecode(t, s, commit(row(count)...))
			}
		}
	}
}

// places calls with the bytes ahead of each sample of several commits, and with what may stand behind that sample.
func places(do func(ahead, behind string, at, count int)) {
	for _, count := range []int{1, 2, 3, 31, 32} {
		for _, at := range []int{0, 1, 2, count / 2, count - 2, count - 1} {
			if at < 0 || at >= count {
				continue
			}
			ahead := commitOf(uint64(count), row(at))
			for _, behind := range []string{"", "\x09", sampleBytes(row(1)[0]), "\x02\x04\x01"} {
				do(ahead, behind, at, count)
			}
		}
	}
}

// Promise 12.1: each of GetText's errors at the labels of each sample: at most 1024 bytes.
func TestDecodeLabelsText(t *testing.T) {
	faults := []numberFault{
		{"\x02\x04\x01", api.ErrLong},
		{"\x02\x04\x01" + strings.Repeat("\x01", 1025), api.ErrLong},
		{"\x02\x04\x02", api.ErrLong},
		{"\x02\x08\x00", api.ErrLong},
		{"\x03\x01\x00\x08" + labelBytes(labels("a", "1")), api.ErrLong},
		{"\x05\x01\x00\x00\x00\x08" + labelBytes(labels("a", "1")), api.ErrLong},
		{"\x08\x80\x00\x00\x00\x00\x00\x00\x08" + labelBytes(labels("a", "1")), api.ErrLong},
		{"\x08\xFF\xFF\xFF\xFF\xFF\xFF\xFF\xFF", api.ErrLong},
		{text(labelBytes(labels("a", strings.Repeat("x", 1100)))), api.ErrLong},
	}
	short := []numberFault{
		{"\x02\x04\x00", api.ErrShort},
		{"\x02\x04\x00" + strings.Repeat("\x01", 1000), api.ErrShort},
		{"\x02\x03\xFF", api.ErrShort},
		{"\x02\x03\x22" + labelBytes(fullLabels())[:801], api.ErrShort},
		{"\x01\x01", api.ErrShort},
		{"\x01\x08" + labelBytes(labels("a", "1"))[:7], api.ErrShort},
	}
	places(func(ahead, behind string, at, count int) {
		for _, x := range append(faults, numberFaults()...) {
			if x.e == api.ErrShort {
				wantNone(t, ahead+x.s, x.e, at)
			} else {
				wantNone(t, ahead+x.s+behind, x.e, at)
			}
		}
		for _, x := range short {
			wantNone(t, ahead+x.s, x.e, at)
		}
	})
}

// Promise 12.1: each of label.Decode's errors, at each sample, whatever is behind the labels' text.
func TestDecodeLabels(t *testing.T) {
	type fault struct {
		s string
		e api.Errno
	}
	right := labelBytes(labels("a", "1", "b", "2"))
	faults := []fault{
		{"", api.ErrShort},
		{"\x01", api.ErrShort},
		{"\x09", api.ErrRange},
		{"\xFF\x01", api.ErrRange},
		{"\x01\x00", api.ErrField},
		{"\x00", api.ErrLabel},
		{"\x00\x00", api.ErrLabel},
		{"\x01\x09", api.ErrLabel},
		{"\x08\x80\x00\x00\x00\x00\x00\x00\x01", api.ErrLabel},
		{"\x01\x01\x01\x21", api.ErrLong},
		{"\x01\x01\x01\x01a\x01\x41", api.ErrLong},
		{"\x01\x01\x01\x01a\x09", api.ErrRange},
		{"\x01\x01\x02\x00\x01a\x01\x011", api.ErrField},
		{right + "\x00", api.ErrMore},
		{right + strings.Repeat("x", 1024-len(right)), api.ErrMore},
		{labelBytes(labels("A", "1")) + "\x00", api.ErrMore},
		{strings.Repeat("\x01", 1024), api.ErrMore},
		{strings.Repeat("\x09", 1024), api.ErrRange},
		{strings.Repeat("\x00", 1024), api.ErrLabel},
	}
	for end := range right {
		faults = append(faults, fault{right[:end], api.ErrShort})
	}
	for _, l := range badLabels()[2:] {
		if s := labelBytes(l); !strings.Contains(s, "\x01\x21") && !strings.Contains(s, "\x01\x41") {
			faults = append(faults, fault{s, api.ErrLabel})
		}
	}
	places(func(ahead, behind string, at, count int) {
		for _, x := range faults {
			wantNone(t, ahead+text(x.s)+behind, x.e, at)
		}
	})
	whole := labelBytes(fullLabels())
	if len(whole) != 802 {
		t.Errorf("the longest labels have %d bytes", len(whole))
	}
	wantDecode(t, "\x01\x01\x01\x01"+text(whole)+"\x00\x00", commit(api.Sample{Labels: fullLabels()}))
}

// Promise 12.1: each of GetSigned's errors at T and of GetNum's at V, at each sample.
func TestDecodeNumbers(t *testing.T) {
	own := text(labelBytes(labels("a", "1")))
	places(func(ahead, behind string, at, count int) {
		for _, x := range numberFaults() {
			if x.e == api.ErrShort {
				behind = ""
			}
			wantNone(t, ahead+own+x.s+behind, x.e, at)
			wantNone(t, ahead+own+"\x01\x01"+x.s+behind, x.e, at)
			wantNone(t, ahead+own+"\x00"+x.s+behind, x.e, at)
		}
	})
}

// Promise 12.1: each of match.Get's errors, whatever is behind the matchers.
func TestDecodeMatches(t *testing.T) {
	for _, x := range numberFaults() {
		wantNone(t, "\x01\x02"+x.s, x.e, "how many matchers")
		wantNone(t, "\x01\x02\x01\x01"+x.s, x.e, "a matcher's kind")
		wantNone(t, "\x01\x02\x01\x01\x01\x01"+x.s, x.e, "a matcher's name")
		wantNone(t, "\x01\x02\x01\x01\x01\x01\x01\x01a"+x.s, x.e, "a matcher's value")
	}
	ends := []string{"", "\x00", "\x00\x00", "\x00\x00\x00", "\x01\x02\x01\x01", "\x09", "\x01\x00"}
	for _, behind := range ends {
		for _, count := range []uint64{9, 10, 255, 256, 257, 1 << 32, 1 << 63, math.MaxUint64} {
			wantNone(t, "\x01\x02"+plainNum(count)+behind, api.ErrLong, count)
			wantNone(t, "\x01\x02\x01\x01"+plainNum(count)+behind, api.ErrKind, count)
		}
		for _, kind := range []uint64{5, 6, 256, 257, 1<<32 + 1, 1<<63 + 1} {
			wantNone(t, "\x01\x02\x01\x01"+plainNum(kind)+behind, api.ErrKind, kind)
		}
		wantNone(t, "\x01\x02\x01\x01\x01\x01\x01\x21"+behind, api.ErrLong, "a name")
		wantNone(t, "\x01\x02\x01\x01\x01\x01\x01\x01a\x01\x41"+behind, api.ErrLong, "a value")
		for _, x := range badMatches() {
			if s := matchBytes(x.l); !strings.Contains(s, "\x01\x21") && !strings.Contains(s, "\x01\x41") {
				wantNone(t, "\x01\x02"+s+behind, x.e, brief(cut(0, 0, x.l...)))
			}
		}
	}
}

// Promise 12.1: each of GetSigned's errors at From and at To.
func TestDecodeTimes(t *testing.T) {
	for count := range 9 {
		s := "\x01\x02" + matchBytes(matchRow(count))
		for _, x := range numberFaults() {
			wantNone(t, s+x.s, x.e, "from")
			for _, from := range []int64{0, -1, 1, first, last} {
				wantNone(t, s+plainSigned(from)+x.s, x.e, "to")
			}
		}
	}
}

// Promise 12.1: of several errors the one that stands ahead in the bytes; bytes that are left are told ahead of times that are not in order.
func TestDecodeFirstFault(t *testing.T) {
	wrong, right := text(labelBytes(labels("A", "1"))), sampleBytes(at(1, 1))
	for _, x := range []struct {
		name string
		s    string
		e    api.Errno
	}{
		{"nothing", "", api.ErrShort},
		{"a kind that is none, and no more", "\x00", api.ErrKind},
		{"a kind that is none, and a number that is none", "\x01\x03\x09", api.ErrKind},
		{"no samples, and bytes left", "\x01\x01\x00\x00", api.ErrRange},
		{"33 samples, and none", "\x01\x01\x01\x21", api.ErrRange},
		{"labels that are none, and no time", "\x01\x01\x01\x01" + wrong, api.ErrLabel},
		{"labels that are none, and a time that is none", "\x01\x01\x01\x01" + wrong + "\x09", api.ErrLabel},
		{"a time that is none, ahead of labels that are none", "\x01\x01\x01\x02" + text(labelBytes(labels("a", "1"))) + "\x01\x00\x00" + wrong, api.ErrField},
		{"labels that are none, ahead of a text too long", "\x01\x01\x01\x02" + wrong + "\x00\x00\x02\x04\x01", api.ErrLabel},
		{"a text too long, ahead of labels that are none", "\x01\x01\x01\x02\x02\x04\x01" + wrong, api.ErrLong},
		{"labels that are none in the last sample, and bytes left", "\x01\x01\x01\x02" + right + wrong + "\x00\x00\x00", api.ErrLabel},
		{"a sample, and bytes left", "\x01\x01\x01\x01" + right + "\x00", api.ErrMore},
		{"a sample, and a sample left", "\x01\x01\x01\x01" + right + wrong + "\x00\x00", api.ErrMore},
		{"a delete, and no times", "\x01\x02\x00", api.ErrShort},
		{"a delete, and one time", "\x01\x02\x00\x00", api.ErrShort},
		{"a delete, and three times", "\x01\x02\x00\x00\x00\x00", api.ErrMore},
		{"from above to", "\x01\x02\x00\x01\x02\x00", api.ErrOrder},
		{"from above to, and bytes left", "\x01\x02\x00\x01\x02\x00\x00", api.ErrMore},
		{"from above to, which is none", "\x01\x02\x00\x01\x02\x09", api.ErrRange},
		{"a matcher's kind 0, and from above to", "\x01\x02" + matchBytes([]api.Match{{Name: "a"}}) + "\x01\x02\x00", api.ErrKind},
		{"a matcher's kind 0, and no time", "\x01\x02" + matchBytes([]api.Match{{Name: "a"}}), api.ErrKind},
		{"a matcher's name that is none, and a time that is none", "\x01\x02" + matchBytes([]api.Match{equal("A", "1")}) + "\x09", api.ErrField},
		{"a matcher's name that is none, and bytes left", "\x01\x02" + matchBytes([]api.Match{equal("A", "1")}) + "\x00\x00\x00", api.ErrField},
		{"nine matchers, and no more", "\x01\x02\x01\x09", api.ErrLong},
	} {
		if e := wantPlain(t, x.s); e != x.e {
			t.Errorf("%s: %v by another way; want %v", x.name, e, x.e)
		}
		wantNone(t, x.s, x.e, x.name)
	}
}

// Promise 12.1: each byte changed in each way, against another way; each error is told by some of them.
func TestDecodeEachByte(t *testing.T) {
	var seen [20]int
	for _, r := range append(few(), commit(row(9)...), commit(api.Sample{Labels: fullLabels(), T: first, V: 1 << 60})) {
		s := []byte(plainBytes(r))
		for at, right := range s {
			if at > 60 && at%9 != 0 && at < len(s)-4 {
				continue
			}
			for c := range 256 {
				s[at] = byte(c)
				seen[wantPlain(t, string(s))]++
			}
			s[at] = right
		}
	}
	for _, e := range []api.Errno{api.OK, api.ErrShort, api.ErrRange, api.ErrField, api.ErrKind, api.ErrMore, api.ErrLong, api.ErrOrder, api.ErrLabel} {
		if seen[e] == 0 {
			t.Errorf("no byte led to %v", e)
		}
	}
}

// likely is bytes that may be a record's: few parts of them are wrong.
func likely(seed int) string {
	c := mixed(seed + 33)
	r := anyWrong(seed)
	count := uint64(len(r.Samples))
	if c%32 == 0 {
		count = c >> 5 % 40
	}
	s := plainBytes(r)
	if r.Kind == api.RCommit {
		s = commitOf(count, r.Samples)
	}
	switch c >> 12 % 16 {
	case 0:
		return s + string([]byte{byte(c >> 20)})
	case 1:
		return s[:c>>20%uint64(len(s)+1)]
	case 2, 3:
		b := []byte(s)
		b[c>>20%uint64(len(b))] = byte(c >> 50)
		return string(b)
	}
	return s
}

// Promise 12.1: any bytes, and such as are nearly a record's, against another way.
func TestDecodeIsPlain(t *testing.T) {
	var seen [20]int
	for i := range 60_000 {
		seen[wantPlain(t, likely(i))]++
		var b []byte
		for j := range i % 20 {
			b = append(b, byte(mixed(i*20+j)>>(mixed(i+j)%8))&byte(mixed(i)))
		}
		wantPlain(t, string(b))
		wantPlain(t, "\x01\x01\x01\x01\x01"+string(b))
		wantPlain(t, "\x01\x02"+string(b))
	}
	for _, e := range []api.Errno{api.OK, api.ErrShort, api.ErrRange, api.ErrLabel, api.ErrField, api.ErrMore, api.ErrOrder} {
		if seen[e] < 100 {
			t.Errorf("%v was told %d times alone", e, seen[e])
		}
	}
}

// Promise 12.1: all bytes of up to two, and all short rows of the bytes that records are made of, against another way.
func TestDecodeAllShort(t *testing.T) {
	own := text(labelBytes(labels("a", "1")))
	for n := range 1 << 16 {
		high, low := byte(n>>8), byte(n)
		wantPlain(t, string([]byte{high, low}))
		wantPlain(t, string([]byte{1, high, low}))
		wantPlain(t, string([]byte{1, 2, high, low}))
		wantPlain(t, string([]byte{1, 2, 0, 1, high, 1, low}))
		wantPlain(t, "\x01\x01\x01\x01"+own+string([]byte{1, high, 1, low}))
		wantPlain(t, "\x01\x01\x01\x01\x01\x08\x01\x01\x01\x01"+string([]byte{high, 1, 1, low, 0, 0}))
	}
	for n := range 1 << 8 {
		wantPlain(t, string([]byte{byte(n)}))
	}
	const signs = "\x00\x01\x02a"
	for size := range 10 {
		for n := range 1 << (2 * size) {
			b := make([]byte, size)
			for i := range b {
				b[i] = signs[n>>(2*i)&3]
			}
			wantPlain(t, string(b))
		}
	}
}

// Promise 12.1: bytes that are longer than any record's are refused as the chapter says (R6).
func TestDecodeLong(t *testing.T) {
	for _, size := range []int{1025, 1 << 16, 1 << 20} {
		much := strings.Repeat("a", size)
		for _, r := range few() {
			wantNone(t, plainBytes(r)+much, api.ErrMore, size)
		}
		wantNone(t, much, api.ErrRange, size)
		wantNone(t, strings.Repeat("\x00", size), api.ErrKind, size)
		wantNone(t, strings.Repeat("\x01", size), api.ErrShort, size)
		wantNone(t, "\x01\x01\x01\x01"+text(much), api.ErrLong, size)
		wantNone(t, "\x01\x01\x01\x01\x02\x04\x00"+much, api.ErrRange, size)
		wantNone(t, "\x01\x02\x00\x00\x00"+much, api.ErrMore, size)
		wantNone(t, commitOf(uint64(size), row(1)), api.ErrRange, size)
		wantNone(t, commitOf(32, row(33))+much, api.ErrMore, size)
	}
}

// Promises 12.1, 12.2: what is handed in is not changed, what lies behind its end neither; what is handed out is not kept (R4).
func TestApart(t *testing.T) {
	room := commit(row(40)...)
	for i := range room.Samples {
		room.Samples[i].Labels = append(labels("a", fmt.Sprint(i)), labels("b", "2", "a", "9")...)[:1]
	}
	all := slices.Clone(room.Samples)
	matches := append(matchRow(8), some("z"))
	for end := range 41 {
		for _, r := range []api.Record{commit(room.Samples[:end]...), cut(0, 1, matches[:end%10]...), cut(1, 0, matches[:end%10]...), {Kind: 1, Samples: room.Samples[:end], Matches: matches}} {
			Check(r)
			Encode(r)
			Span(r)
		}
	}
	if !slices.EqualFunc(room.Samples, all, sameSample) || !slices.Equal(matches, append(matchRow(8), some("z"))) {
		t.Error("what was handed in has been changed")
	}
	for i, x := range room.Samples {
		if !slices.Equal(x.Labels[:3], append(labels("a", fmt.Sprint(i)), labels("b", "2", "a", "9")...)) {
			t.Errorf("the labels of sample %d have been changed", i)
		}
	}
	for _, r := range []api.Record{commit(row(32)...), cut(0, 1, matchRow(8)...)} {
		s := plainBytes(r)
		a, _ := Decode(s)
		b, _ := Decode(s)
		for i := range a.Samples {
			clear(a.Samples[i].Labels)
			_ = append(a.Samples[i].Labels, labels("x", "y")...)
		}
		_ = append(a.Samples[:len(a.Samples)/2], row(40)...)
		clear(a.Samples)
		clear(a.Matches)
		if !same(b, r) {
			t.Error("two answers of Decode share memory")
		}
		wantDecode(t, s, r)
	}
}

// Promise 12.1: samples of one answer share no memory, also where their labels are the same.
func TestSamplesApart(t *testing.T) {
	r, e := Decode(plainBytes(commit(slices.Repeat([]api.Sample{{Labels: labels("a", "1", "b", "2")}}, 32)...)))
	if e != api.OK {
		t.Fatal(e)
	}
	for i := range r.Samples {
		_ = append(r.Samples[i].Labels, labels("c", "3")...)
		r.Samples[i].Labels[1].Value = fmt.Sprint(i)
		_ = append(r.Samples[i].Labels[:1], labels("b", fmt.Sprint(i))...)
	}
	for i, x := range r.Samples {
		if !slices.Equal(x.Labels, labels("a", "1", "b", fmt.Sprint(i))) {
			t.Errorf("sample %d: %q", i, x.Labels)
		}
	}
}

// Promise 12.2: the spans of records, written out.
func TestSpanWritten(t *testing.T) {
	for _, x := range []struct {
		r               api.Record
		least, greatest int64
	}{
		{commit(at(5, 0)), 5, 5},
		{commit(at(-5, 9)), -5, -5},
		{commit(at(5, 1), at(3, 2)), 3, 5},
		{commit(at(3, 1), at(5, 2)), 3, 5},
		{commit(at(3, 1), at(4, 9), at(2, 8), at(3, 7)), 2, 4},
		{commit(at(-1, 0), at(1, 0)), -1, 1},
		{commit(at(last, 0), at(first, 0)), first, last},
		{commit(at(first, 0)), first, first},
		{commit(at(last, 0), at(last-1, 0)), last - 1, last},
		{commit(at(0, math.MaxUint64)), 0, 0},
		{cut(-1, 1), -1, 1},
		{cut(7, 7, equal("a", "1")), 7, 7},
		{cut(first, last), first, last},
		{cut(first, first), first, first},
		{cut(0, 0), 0, 0},
	} {
		wantSpan(t, x.r, x.least, x.greatest)
	}
}

// Promise 12.2: the least and the greatest time at each place of a commit.
func TestSpanEachPlace(t *testing.T) {
	for count := 1; count <= 32; count++ {
		for low := range count {
			for high := range count {
				l := row(count)
				for i := range l {
					l[i].T = 100 + int64(i)
				}
				l[low].T = -7
				wantSpan(t, commit(l...), -7, greatestOf(l))
				l[high].T = 1000
				wantSpan(t, commit(l...), leastOf(l), 1000)
			}
		}
	}
}

// leastOf is the least time of samples.
func leastOf(l []api.Sample) int64 {
	return slices.MinFunc(l, func(a, b api.Sample) int { return int(a.T - b.T) }).T
}

// greatestOf is the greatest time of samples.
func greatestOf(l []api.Sample) int64 {
	return slices.MaxFunc(l, func(a, b api.Sample) int { return int(a.T - b.T) }).T
}

// Promise 12.2: records of many kinds, against another way; of a record that is not right, in whatever way, it is 0 and 0.
func TestSpanIsPlain(t *testing.T) {
	for _, r := range many() {
		least, greatest := plainSpan(r)
		wantSpan(t, r, least, greatest)
		r.Kind += 2
		wantSpan(t, r, 0, 0)
	}
	full := slices.Repeat([]api.Sample{at(5, 0)}, 33)
	for _, r := range []api.Record{
		{}, {From: 1, To: 2}, {Kind: 3, From: 1, To: 2}, {Kind: 3, Samples: full[:1]}, commit(), commit(full...),
		{Kind: api.RCommit, Samples: full[:1], From: 1}, {Kind: api.RCommit, Samples: full[:1], To: 1}, {Kind: api.RCommit, Samples: full[:1], Matches: matchRow(1)},
		commit(at(5, 0), api.Sample{T: 9}), {Kind: api.RDelete, Samples: full[:1], From: 1, To: 2},
		cut(2, 1), cut(1, 2, api.Match{}), cut(1, 2, make([]api.Match, 9)...), cut(1, 2, equal("A", "1")),
	} {
		wantSpan(t, r, 0, 0)
	}
}

// Promise 12.3: Decode of Encode is the record.
func TestDecodeOfEncode(t *testing.T) {
	for seed := range 10_000 {
		r := anyRecord(seed)
		s, e := Encode(r)
		if e != api.OK {
			t.Fatalf("%s: %v", brief(r), e)
		}
		wantDecode(t, s, r)
	}
	for _, r := range many() {
		s, _ := Encode(r)
		wantDecode(t, s, r)
	}
}

// Promise 12.3: Encode of Decode is the bytes; records that differ have other bytes.
func TestEncodeOfDecode(t *testing.T) {
	got := 0
	seen := make(map[string]string)
	for i := range 60_000 {
		s := likely(i)
		r, e := Decode(s)
		if e != api.OK {
			continue
		}
		got++
		wantEncode(t, r, s)
		tells := fmt.Sprintf("%q", []any{r.Kind, r.Samples, r.Matches, r.From, r.To})
		if other := seen[s]; other != "" && other != tells {
			t.Errorf("%s and %s have the same bytes", other, tells)
		}
		seen[s] = tells
	}
	if got < 1000 {
		t.Errorf("%d alone were decoded", got)
	}
}

// FuzzRecord: any bytes against another way, and encoded again as they were; any record of a few parts checked, encoded and spanned against another way.
func FuzzRecord(f *testing.F) {
	for _, r := range append(few(), commit(), cut(2, 1), cut(0, 0, api.Match{Kind: 5, Name: "a"})) {
		f.Add(plainBytes(r), 1, "a", "1", int64(5), int64(-7), uint64(9))
	}
	f.Add("\x00", 2, "A", "", int64(-7), int64(5), uint64(0))
	f.Fuzz(func(t *testing.T, s string, kind int, name, value string, from, to int64, v uint64) {
		if wantPlain(t, s) == api.OK {
			r, _ := Decode(s)
			wantEncode(t, r, s)
		}
		samples := []api.Sample{{Labels: labels(name, value), T: from, V: v}, {Labels: labels("a", value, name, "2"), T: to, V: v}}
		for _, r := range []api.Record{commit(samples...), commit(samples[:1]...), cut(from, to, equal(name, value)), cut(from, to, api.Match{Kind: kind, Name: name}), {Kind: kind, Samples: samples[:1], From: from}, {Kind: kind, From: from, To: to}} {
			e := plainCheck(r)
			wantCheck(t, r, e)
			least, greatest := plainSpan(r)
			wantSpan(t, r, least, greatest)
			if e == api.OK {
				wantEncode(t, r, plainBytes(r))
				wantDecode(t, plainBytes(r), r)
			}
		}
	})
}

// A commit and a delete are encoded, and decoded again; their times have a span.
func Example() {
	l := []api.Pair{{Name: "job", Value: "node"}}
	c := api.Record{Kind: api.RCommit, Samples: []api.Sample{{Labels: l, T: 5, V: 7}, {Labels: l, T: 3}}}
	s, e := Encode(c)
	again, d := Decode(s)
	fmt.Println(len(s), e == api.OK, again, d == api.OK)
	fmt.Println(Span(c))
	s, _ = Encode(api.Record{Kind: api.RDelete, From: -1, To: 1})
	fmt.Printf("% X\n", s)
	fmt.Println(Check(api.Record{Kind: api.RCommit}), Check(api.Record{Kind: api.RDelete, From: 1}))
	// Output:
	// 41 true {1 [{[{job node}] 5 7} {[{job node}] 3 0}] [] 0 0} true
	// 3 5
	// 01 02 00 01 01 01 02
	// error 2 error 9
}
