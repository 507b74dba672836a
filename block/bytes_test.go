package block

import (
	"encoding/binary"
	"encoding/hex"
	"fmt"
	"hash/crc32"
	"math"
	"math/big"
	"slices"
	"sort"
	"strings"
	"testing"

	"barograph/api"
	"barograph/chunk"
	"barograph/digits"
	"barograph/frame"
	"barograph/label"
	"barograph/record"
)

// plainNum is a number's bytes.
func plainNum(n uint64) string {
	b := new(big.Int).SetUint64(n).Bytes()
	return string(append([]byte{byte(len(b))}, b...))
}

// plainNums is the bytes of numbers in a row.
func plainNums(l ...uint64) string {
	s := ""
	for _, n := range l {
		s += plainNum(n)
	}
	return s
}

// plainSigned is the bytes of a number with a sign: twice the number, or one less than twice what is below 0.
func plainSigned(n int64) string {
	b := new(big.Int).Lsh(big.NewInt(n), 1)
	if n < 0 {
		b.Not(b)
	}
	return plainNum(b.Uint64())
}

// text is a text's bytes.
func text(s string) string { return plainNum(uint64(len(s))) + s }

// labelBytes is the bytes of pairs, whether or not they are labels.
func labelBytes(l []api.Pair) string {
	s := plainNum(uint64(len(l)))
	for _, p := range l {
		s += text(p.Name) + text(p.Value)
	}
	return s
}

// deleteBytes is the bytes of a delete, whether or not it is right.
func deleteBytes(r api.Record) string {
	s := plainNums(uint64(r.Kind), uint64(len(r.Matches)))
	for _, m := range r.Matches {
		s += plainNum(uint64(m.Kind)) + text(m.Name) + text(m.Value)
	}
	return s + plainSigned(r.From) + plainSigned(r.To)
}

// chunkBytes is the text of a chunk of points, or of none, if there is no chunk of them.
func chunkBytes(l []api.Point) string {
	s, _ := chunk.Encode(l)
	return text(s)
}

// chunks is the texts of the chunks of points, so many in each.
func chunks(l []api.Point, size int) string {
	s := ""
	for part := range slices.Chunk(l, size) {
		s += chunkBytes(part)
	}
	return s
}

// rowBytes is the data of a row, whether or not it is right.
func rowBytes(r Row) string {
	return text(labelBytes(r.Labels)) + plainSigned(r.Last) + chunks(r.Points, 64)
}

// part is a frame.
type part struct {
	kind byte
	data string
}

// sumBytes is a text's check sum.
func sumBytes(s string) string {
	c := crc32.Checksum([]byte(s), crc32.MakeTable(crc32.Castagnoli))
	return string(binary.BigEndian.AppendUint32(nil, c))
}

// frames is the bytes of frames.
func frames(l ...part) string {
	var w strings.Builder
	for _, p := range l {
		s := string([]byte{p.kind}) + text(p.data)
		w.WriteString(s + sumBytes(s))
	}
	return w.String()
}

// ended is bytes with the frame of their sum behind.
func ended(s string) string { return s + frames(part{5, sumBytes(s)}) }

// parts is the frames of a block, whether or not it is right, but for the last one.
func parts(b Block) []part {
	l := []part{{2, plainNums(uint64(b.First), uint64(b.To), uint64(len(b.Rows)), uint64(len(b.Dels)))}}
	for _, r := range b.Rows {
		l = append(l, part{3, rowBytes(r)})
	}
	for _, d := range b.Dels {
		l = append(l, part{4, deleteBytes(d)})
	}
	return l
}

// plainEncode is Encode by another way.
func plainEncode(b Block) (string, api.Errno) {
	if e := plainCheck(b); e != api.OK {
		return "", e
	}
	l := parts(b)
	if slices.ContainsFunc(l, func(p part) bool { return len(p.data) > 65536 }) {
		return "", api.ErrLong
	}
	return ended(frames(l...)), api.OK
}

// plainRowOf is what seems to be a row, of whatever data.
func plainRowOf(data string) Row {
	s, at, _ := digits.GetText(data, len(data))
	var r Row
	r.Labels, _ = label.Decode(s)
	greatest, size, _ := digits.GetSigned(data[at:])
	r.Last = greatest
	for rest := data[at+size:]; rest != ""; {
		s, size, e := digits.GetText(rest, len(rest))
		if e != api.OK {
			break
		}
		l, _ := chunk.Decode(s)
		r.Points = append(r.Points, l...)
		rest = rest[size:]
	}
	return r
}

// plainDecode is Decode by another way: it reads what seems to be a block, and then asks whether that block's bytes are the ones that it has read.
func plainDecode(s string) (Block, api.Errno) {
	var b Block
	l, _, _ := frame.Scan(s)
	for _, f := range l {
		switch f.Kind {
		case 2:
			n, size, _ := digits.GetNum(f.Data)
			b.First = int(n)
			n, _, _ = digits.GetNum(f.Data[size:])
			b.To = int(n)
		case 3:
			b.Rows = append(b.Rows, plainRowOf(f.Data))
		case 4:
			d, _ := record.Decode(f.Data)
			b.Dels = append(b.Dels, d)
		}
	}
	if again, e := plainEncode(b); e != api.OK || again != s {
		return Block{}, api.ErrField
	}
	return b, api.OK
}

// wantDecode decodes bytes, and holds the answer against another way; a block that is told is right, and is encoded as the bytes again.
func wantDecode(t *testing.T, s string) api.Errno {
	t.Helper()
	want, wantErrno := plainDecode(s)
	b, e := Decode(s)
	if e != wantErrno || !same(b, want) {
		t.Errorf("Decode of %d bytes %.200x: %s, %v; want %s, %v", len(s), s, brief(b), e, brief(want), wantErrno)
	}
	if e != api.OK {
		return e
	}
	if e := Check(b); e != api.OK {
		t.Errorf("Check of %s, which Decode told: %v", brief(b), e)
	}
	if again, e := Encode(b); e != api.OK || again != s {
		t.Errorf("Encode of Decode of %.200x: %.200x, %v", s, again, e)
	}
	return e
}

// wantNone decodes bytes that are no block's.
func wantNone(t *testing.T, s, name string) {
	t.Helper()
	if e := wantDecode(t, s); e != api.ErrField {
		t.Errorf("%s: Decode of %d bytes %.200x: %v; want %v", name, len(s), s, e, api.ErrField)
	}
}

// wantNoFrames decodes frames with a sum behind that is right, but which are no block's.
func wantNoFrames(t *testing.T, name string, l ...part) {
	t.Helper()
	wantNone(t, ended(frames(l...)), name)
}

// wantBytes encodes a block as these bytes, and decodes them.
func wantBytes(t *testing.T, b Block, want string) {
	t.Helper()
	s, e := Encode(b)
	if e != api.OK || s != want {
		t.Errorf("Encode of %s: %d bytes %.400x, %v; want %d bytes %.400x", brief(b), len(s), s, e, len(want), want)
	}
	got, e := Decode(want)
	if e != api.OK || !same(got, b) {
		t.Errorf("Decode of %d bytes %.400x: %s, %v; want %s", len(want), want, brief(got), e, brief(b))
	}
	wantDecode(t, want)
}

// wantWhole encodes and decodes a block that is right.
func wantWhole(t *testing.T, b Block) {
	t.Helper()
	s, e := plainEncode(b)
	if e != api.OK {
		t.Fatalf("%s: %v by another way", brief(b), e)
	}
	wantBytes(t, b, s)
}

// bytesOf is the bytes of hexadecimal signs, with blanks between.
func bytesOf(l ...string) string {
	b, err := hex.DecodeString(strings.ReplaceAll(strings.Join(l, ""), " ", ""))
	if err != nil {
		panic(err)
	}
	return string(b)
}

// Promises 15.1 and 15.2: bytes written out, their sums too.
func TestBytes(t *testing.T) {
	wantBytes(t, block(), bytesOf(
		"02 01 06 01 01 01 01 00 00 C5 8B 6F D7",
		"05 01 04 E9 0C 78 54 6E F7 DD FC"))
	// The chapter's example.
	a := row(labels("a", "1"), api.Point{T: 5, V: 7})
	wantBytes(t, block(a), bytesOf(
		"02 01 07 01 01 01 01 01 01 00 AA 7E 2A 50",
		"03 01 22 01 08 01 01 01 01 61 01 01 31 01 0A 01 14 01 01 01 80",
		"00 00 00 00 00 00 00 05 00 00 00 00 00 00 00 07 A8 D7 17 FD",
		"05 01 04 A6 BA 8F FA D1 A1 B3 47"))
	a.Points = nil
	wantBytes(t, Block{First: 1, To: 2, Rows: []Row{a}, Dels: records(cut(0, 9))}, bytesOf(
		"02 01 08 01 01 01 02 01 01 01 01 D5 1B 60 A5",
		"03 01 0C 01 08 01 01 01 01 61 01 01 31 01 0A A1 C4 D8 22",
		"04 01 06 01 02 00 00 01 12 24 25 D0 58",
		"05 01 04 D7 CA 49 37 DE 3E E2 31"))
	rows := []Row{{Labels: labels("a", "1"), Last: -1}, {Labels: labels("a", "1", "b", "2")}}
	wantBytes(t, Block{First: most - 1, To: most, Rows: rows, Dels: records(cut(0, 0, some("b")), cut(first, last))}, bytesOf(
		"02 01 0E 04 05 F5 E0 FE 04 05 F5 E0 FF 01 02 01 02 2A 1F B9 E3",
		"03 01 0C 01 08 01 01 01 01 61 01 01 31 01 01 38 4D 73 19",
		"03 01 11 01 0E 01 02 01 01 61 01 01 31 01 01 62 01 01 32 00 FE 2A 44 B9",
		"04 01 0C 01 02 01 01 01 04 01 01 62 00 00 00 01 E4 63 EE",
		"04 01 15 01 02 00 08 FF FF FF FF FF FF FF FF 08 FF FF FF FF FF FF FF FE 19 46 92 F7",
		"05 01 04 71 19 E7 43 8F A1 2F F7"))
}

// anyPoints is so many points that rise, of any values.
func anyPoints(count, seed int) []api.Point {
	var l []api.Point
	t := int64(mixed(seed)>>(mixed(seed)%60)) * (1 - 2*int64(seed%2))
	for i := range count {
		c := mixed(seed + i*31)
		if t += 1 + int64(c>>(c%8+50)); c%50 == 0 {
			t += int64(c >> 20)
		}
		l = append(l, api.Point{T: t, V: mixed(seed+i) >> (mixed(i) % 64)})
	}
	return l
}

// anyBlock is a block that is right.
func anyBlock(seed int) Block {
	c := mixed(seed)
	b := Block{First: 1 + int(c%most)}
	b.To = b.First + int(c>>30)%(most-b.First+1)
	for i := range c >> 8 % 6 {
		d := mixed(seed*100 + int(i))
		r := row(numbered(int(i)*10), anyPoints([]int{0, 1, 2, 3, 63, 64, 65, 128, 130}[d%9], seed+int(i))...)
		if d>>8%2 == 0 {
			r.Labels = append(r.Labels, api.Pair{Name: "o", Value: full[:1+d>>16%64]})
		}
		if d>>9%3 == 0 {
			r.Last = max(r.Last, int64(mixed(seed)))
		}
		b.Rows = append(b.Rows, r)
	}
	for i := range c >> 16 % 4 {
		from, to := int64(mixed(seed+int(i))), int64(mixed(seed+int(i)+1))>>(c>>40%64)
		b.Dels = append(b.Dels, cut(min(from, to), max(from, to), anyMatches(mixed(seed+int(i)))...))
	}
	return b
}

// Promises 15.1, 15.2 and 15.4: blocks of any rows and deletes, encoded as by another way, and decoded again.
func TestEncodeIsPlain(t *testing.T) {
	for seed := range 1500 {
		wantWhole(t, anyBlock(seed))
	}
	for count := range 200 {
		wantWhole(t, block(row(labels("a", "1"), rising(count, -30)...)))
		wantWhole(t, block(row(labels("a", "1"), anyPoints(count, count)...), row(fullLabels()), row(labels("b", "2"), rising(count, 5)...)))
	}
	for _, time := range []int64{first, first + 1, -256, -255, -129, -128, -127, -1, 0, 1, 127, 128, 255, 256, last - 1, last} {
		wantWhole(t, block(Row{Labels: labels("a", "1"), Last: time}))
		wantWhole(t, block(Row{Labels: labels("a", "1"), Last: time, Points: points(time)}))
	}
	for _, from := range []int{1, 2, 127, 128, 255, 256, 257, 65535, 65536, 1<<24 - 1, 1 << 24, most - 1, most} {
		wantWhole(t, Block{First: from, To: most})
		wantWhole(t, Block{First: 1, To: from})
		wantWhole(t, Block{First: from, To: from})
	}
	for _, d := range goodDeletes() {
		wantWhole(t, Block{First: 1, To: 1, Dels: records(d)})
		wantWhole(t, Block{First: 1, To: 1, Dels: records(d, d), Rows: []Row{row(labels("a", "1"))}})
	}
	wantWhole(t, Block{First: 1, To: 9, Dels: goodDeletes()})
}

// Promises 15.1 and 15.2: counts of rows and deletes that have more than one digit.
func TestManyRows(t *testing.T) {
	for _, count := range []int{254, 255, 256, 257, 3000, 65535, 65536} {
		b := Block{First: 1, To: 1}
		for n := range count {
			b.Rows = append(b.Rows, row(labels("n", fmt.Sprintf("%08d", n))))
		}
		wantWhole(t, b)
		if count < 4000 {
			for n := range count {
				b.Rows[n].Points = points(int64(n))
				b.Rows[n].Last = int64(n)
			}
			b.Dels = slices.Repeat(goodDeletes(), count)
			wantWhole(t, b)
		}
	}
}

// longRow is a row whose data has so many bytes.
func longRow(size int) Row {
	l := anyPoints(10_000, 7)
	with := func(count int) Row { return Row{Labels: labels("a", full), Last: last, Points: l[:count]} }
	r := with(sort.Search(len(l), func(count int) bool { return len(rowBytes(with(count))) >= size }))
	// A point has fewer bytes than the value, which is made as much shorter as is needed.
	r.Labels[0].Value = full[len(rowBytes(r))-size:]
	return r
}

// longPoints is so many points whose times and values have nearly as many bits as there may be.
func longPoints(count int) []api.Point {
	l := make([]api.Point, count)
	for i := range l {
		// Distances differ by turns, and so do the windows of the values' differences.
		l[i].T = first + int64(i)<<57 + int64(i%2)<<56
		l[i].V = [4]uint64{0, 1<<63 | 2, 1<<63 | 1<<62 | 3, 1<<62 | 1}[i%4]
	}
	return l
}

// Promises 15.1 and 15.2: chunks of as many bytes as points can have, or nearly so.
func TestLongChunks(t *testing.T) {
	for _, count := range []int{1, 2, 63, 64, 65, 100, 127} {
		r := row(fullLabels(), longPoints(count)...)
		if n := len(rowBytes(r)) - len(labelBytes(r.Labels)); count == 64 && n < 1150 {
			t.Errorf("a chunk of %d points has %d bytes", count, n)
		}
		wantWhole(t, block(r))
	}
}

// Promise 15.1: ErrLong just above 65536 bytes of a frame's data, at each row's place, and behind all that Check tells.
func TestTooLong(t *testing.T) {
	for _, size := range []int{65535, 65536, 65537, 65538, 70000} {
		long := longRow(size)
		if n := len(rowBytes(long)); n != size {
			t.Fatalf("a row of %d bytes, not %d", n, size)
		}
		small := []Row{row(labels("_", "1"), points(1)...), long, row(labels("b", "1"), points(1)...)}
		for _, rows := range [][]Row{small[1:2], small[:2], small[1:], small} {
			b := Block{First: 1, To: 1, Rows: rows, Dels: goodDeletes()}
			if size <= 65536 {
				wantWhole(t, b)
				continue
			}
			if s, e := Encode(b); s != "" || e != api.ErrLong {
				t.Errorf("Encode of a row of %d bytes: %d bytes, %v", size, len(s), e)
			}
			if e := Check(b); e != api.OK {
				t.Errorf("Check of a row of %d bytes: %v", size, e)
			}
			wantNoFrames(t, "data too long", parts(b)...)
			b.Dels = badDeletes()
			wantCheck(t, b, api.ErrKind)
			b.To = 0
			wantCheck(t, b, api.ErrRange)
			b.To, b.Rows = 1, append(slices.Clone(rows), Row{})
			wantCheck(t, b, api.ErrLabel)
		}
	}
	// Two rows that are not too long each, but together.
	other := longRow(60000)
	other.Labels = labels("z", other.Labels[0].Value)
	wantWhole(t, block(longRow(60000), other))
	// Far beyond it.
	r := row(labels("a", "1"), rising(1<<20, 0)...)
	if s, e := Encode(block(r)); s != "" || e != api.ErrLong {
		t.Errorf("Encode of a row of %d points: %d bytes, %v", len(r.Points), len(s), e)
	}
}

// sample is a block with rows of no, of one and of many points, and with deletes.
func sample() Block {
	return Block{First: 3, To: 300, Rows: []Row{
		row(labels("a", "1"), rising(70, -9)...),
		{Labels: labels("a", "1", "b", "2"), Last: -4},
		row(labels("b", "1"), points(1, 2, 900)...),
	}, Dels: records(cut(-1, 1, some("a")), cut(first, 256))}
}

// Promise 15.2: of all bytes of a block each is needed, and none may be there beside them.
func TestDecodeCuts(t *testing.T) {
	wantNone(t, "", "nothing")
	for _, b := range []Block{block(), sample(), block(row(labels("a", "1"), points(5)...)), {First: 1, To: 2, Dels: goodDeletes()}} {
		s, e := Encode(b)
		if e != api.OK {
			t.Fatal(e)
		}
		for at := range len(s) {
			wantNone(t, s[:at], "a beginning")
			if at > 0 {
				wantNone(t, s[at:], "an end")
				wantNone(t, s[:at]+s, "a beginning ahead")
				wantNone(t, s+s[at:], "an end behind")
			}
			wantNone(t, s[:at]+s[at+1:], "without a byte")
			wantNone(t, s[:at]+s[at:at+1]+s[at:], "with a byte twice")
			for _, c := range []string{"\x00", "\x01", "\xFF"} {
				wantNone(t, s[:at]+c+s[at:], "with a byte more")
			}
		}
		for c := range 256 {
			wantNone(t, s+string([]byte{byte(c)}), "a byte behind")
			wantNone(t, string([]byte{byte(c)})+s, "a byte ahead")
		}
		wantNone(t, s+s, "twice")
		wantNone(t, s+frames(part{5, sumBytes(s)}), "ended twice")
		wantNone(t, s+strings.Repeat("\x00", 100_000), "noughts behind")
	}
}

// Promise 15.4: each byte changed in each way.
func TestDecodeEachByte(t *testing.T) {
	change := func(b Block, step int) {
		t.Helper()
		good, e := Encode(b)
		if e != api.OK {
			t.Fatal(e)
		}
		s := []byte(good)
		for at, right := range s {
			for c := 0; c < 256; c += step {
				if s[at] = right ^ byte(c); c == 0 {
					continue
				}
				if b, e := Decode(string(s)); e != api.ErrField || !same(b, Block{}) {
					t.Fatalf("byte %d, %02X for %02X: %s, %v", at, s[at], right, brief(b), e)
				}
			}
			s[at] = right
		}
	}
	change(block(), 1)
	change(block(row(labels("a", "1"), api.Point{T: 5, V: 7})), 1)
	change(Block{First: 1, To: 2, Rows: []Row{{Labels: labels("a", "1"), Last: 5}}, Dels: records(cut(0, 9))}, 1)
	change(Block{First: 1, To: 300, Dels: goodDeletes()[:4]}, 1)
	change(sample(), 5)
	change(block(row(labels("a", "1"), anyPoints(200, 3)...), row(fullLabels(), rising(64, 0)...)), 85)
	for seed := range 12 {
		change(anyBlock(seed), 85)
	}
}

// Promise 15.2: frames of other kinds, in another order, one too few, one too many, with sums that are right.
func TestDecodeFrames(t *testing.T) {
	l := parts(sample())
	if s, e := Encode(sample()); e != api.OK || ended(frames(l...)) != s {
		t.Fatalf("the frames are not the block's: %v", e)
	}
	wantNoFrames(t, "no frame")
	for at := range l {
		for kind := 1; kind < 256; kind++ {
			other := slices.Clone(l)
			if other[at].kind = byte(kind); kind != int(l[at].kind) {
				wantNoFrames(t, "another kind", other...)
			}
		}
		wantNoFrames(t, "a frame too few", slices.Delete(slices.Clone(l), at, at+1)...)
		wantNoFrames(t, "no further frames", l[:at]...)
		for _, p := range append(slices.Clone(l), part{5, sumBytes(frames(l[:at]...))}, part{1, "a"}, part{6, ""}, part{255, ""}) {
			wantNoFrames(t, "a frame too many", slices.Insert(slices.Clone(l), at, p)...)
			wantNoFrames(t, "a frame too many behind", append(slices.Clone(l), p)...)
		}
		for to := range l {
			// Deletes alone may stand in any order.
			if other := slices.Clone(l); to != at && (l[at].kind != 4 || l[to].kind != 4) {
				other[at], other[to] = l[to], l[at]
				wantNoFrames(t, "two frames turned", other...)
			}
		}
		empty := slices.Clone(l)
		empty[at].data = ""
		wantNoFrames(t, "a frame without data", empty...)
		// A sum of a frame that is wrong, in bytes whose own sum is right.
		for back := 1; back <= 4; back++ {
			ahead, own := frames(l[:at]...), []byte(frames(l[at]))
			own[len(own)-back] ^= 1
			wantNone(t, ended(ahead+string(own)+frames(l[at+1:]...)), "a frame's sum")
		}
	}
}

// Promise 15.2: the first frame has four numbers, each right, each written in one way, and no more.
func TestDecodeHead(t *testing.T) {
	b := sample()
	with := func(data string) []part {
		l := parts(b)
		l[0].data = data
		return l
	}
	right := []string{"\x01\x03", "\x02\x01\x2C", "\x01\x03", "\x01\x02"}
	if s, e := Encode(b); e != api.OK || ended(frames(with(strings.Join(right, ""))...)) != s {
		t.Fatalf("the head is not the block's: %v", e)
	}
	faults := []string{"", "\x09", "\xFF", "\x02\x01", "\x01\x00", "\x02\x00\x01", "\x02\x00\x03", "\x00", "\x08\x01"}
	for _, n := range []uint64{4, 5, 255, 256, 299, 301, most + 1, 1 << 31, 1<<32 + 1, 1<<32 + 2, 1<<32 + 3, 1<<32 + 300, 1 << 63, 1<<63 + 2, 1<<63 + 3, math.MaxUint64 - 1, math.MaxUint64} {
		faults = append(faults, plainNum(n))
	}
	for at := range right {
		for _, x := range faults {
			l := slices.Clone(right)
			l[at] = x
			// Some numbers are no fault of First and To.
			if n, _, e := digits.GetNum(x); e == api.OK && (at == 0 && n >= 1 && n <= 300 || at == 1 && n >= 3 && n <= most) {
				if e := wantDecode(t, ended(frames(with(strings.Join(l, ""))...))); e != api.OK {
					t.Errorf("number %d of %q: %v", at, l, e)
				}
				continue
			}
			wantNoFrames(t, fmt.Sprintf("number %d", at), with(strings.Join(l, ""))...)
		}
		wantNoFrames(t, "numbers too few", with(strings.Join(right[:at], ""))...)
	}
	for c := range 256 {
		wantNoFrames(t, "bytes behind", with(strings.Join(right, "")+string([]byte{byte(c)}))...)
	}
	wantNoFrames(t, "five numbers", with(strings.Join(append(right, "\x00"), ""))...)
	for _, x := range [][2]uint64{{0, 0}, {0, 1}, {2, 1}, {301, 300}, {most + 1, most + 1}, {1, most + 1}, {most, 1}, {1 << 63, 1 << 63}, {math.MaxUint64, 1}} {
		wantNoFrames(t, "numbers out of range", with(plainNums(x[0], x[1], 3, 2))...)
	}
}

// Promise 15.2: counts of rows and deletes that are not theirs, also far beyond all bytes.
func TestDecodeCounts(t *testing.T) {
	counts := []uint64{0, 1, 2, 3, 4, 5, 256, 65536, 1<<32 + 2, 1<<32 + 3, 1 << 63, 1<<63 + 2, 1<<63 + 3, math.MaxUint64}
	for rows := range uint64(4) {
		for dels := range uint64(3) {
			b := sample()
			b.Rows, b.Dels = b.Rows[:rows], b.Dels[:dels]
			l := parts(b)
			for _, i := range counts {
				for _, j := range counts {
					l[0].data = plainNums(3, 300, i, j)
					if s := ended(frames(l...)); i == rows && j == dels {
						wantBytes(t, b, s)
					} else {
						wantNone(t, s, "counts")
					}
				}
			}
		}
	}
}

// Promise 15.2: the last frame has the sum of all bytes ahead, and nothing else, and nothing is behind it.
func TestDecodeEnd(t *testing.T) {
	for _, b := range []Block{block(), sample()} {
		l := parts(b)
		s := frames(l...)
		sum := sumBytes(s)
		for kind := 1; kind < 256; kind++ {
			if kind != 5 {
				wantNone(t, s+frames(part{byte(kind), sum}), "an end of another kind")
			}
		}
		wantNone(t, s, "no end")
		for _, data := range []string{"", "\x00\x00\x00\x00", sum[:3], sum[1:], sum + "\x00", "\x00" + sum, sum + sum, text(sum), sumBytes(s + "\x05"), sumBytes(frames(l[:len(l)-1]...)), sumBytes(s[1:]), string([]byte{sum[3], sum[2], sum[1], sum[0]})} {
			wantNone(t, s+frames(part{5, data}), "an end with another sum")
		}
		for bit := range 32 {
			other := []byte(sum)
			other[bit/8] ^= 1 << (bit % 8)
			wantNone(t, s+frames(part{5, string(other)}), "a sum with a bit changed")
		}
		end := frames(part{5, sum})
		for _, behind := range []string{"\x00", "\x05", end, ended(s), frames(part{1, ""}), ended(s + end)} {
			wantNone(t, s+end+behind, "bytes behind the end")
		}
		wantNone(t, ended(s+end), "an end of the end")
		wantNone(t, end+s, "the end ahead")
	}
}

// Promise 15.2: a row's data, part by part.
func TestDecodeRow(t *testing.T) {
	b := block(row(labels("a", "1"), points(1, 5)...))
	own, greatest, chunk := text(labelBytes(labels("a", "1"))), plainSigned(5), chunkBytes(points(1, 5))
	with := func(data string) []part {
		l := parts(b)
		l[1].data = data
		return l
	}
	if data := parts(b)[1].data; data != own+greatest+chunk {
		t.Fatalf("a row's data: %x", data)
	}
	for _, l := range badLabels() {
		wantNoFrames(t, "labels that are none", with(text(labelBytes(l))+greatest+chunk)...)
		wantNoFrames(t, "labels that are none", with(text(labelBytes(l))+greatest)...)
	}
	bare := labelBytes(labels("a", "1"))
	for _, s := range []string{bare + "\x00", bare[:7], bare[1:], "", "\x00", "\x01\x00" + bare, "\x01\x02" + bare[2:], text(bare), bare + bare, strings.Repeat("a", 60000)} {
		wantNoFrames(t, "labels' bytes", with(text(s)+greatest+chunk)...)
	}
	wantNoFrames(t, "labels without a count", with(bare+greatest+chunk)...)
	for _, s := range []string{"", "\x09", "\x02\x01", "\x01\x00", "\x02\x00\x0A", "\x08", plainNum(math.MaxUint64), "\x01\xFF", "\x03\x01\x00\x00"} {
		wantNoFrames(t, "the labels' count", with(s)...)
		wantNoFrames(t, "the labels' count", with(s+bare+greatest+chunk)...)
		if s != "" {
			wantNoFrames(t, "a chunk's count", with(own+greatest+s)...)
			wantNoFrames(t, "a further chunk's count", with(own+greatest+chunk+s)...)
		}
	}
	for _, s := range []string{"", "\x09", "\x01\x00", "\x02\x00\x0A"} {
		wantNoFrames(t, "no time", with(own+s)...)
		wantNoFrames(t, "no time", with(own+s+chunk)...)
	}
	// A greatest time below the points', and bytes behind them.
	for _, time := range []int64{4, 1, 0, -1, first} {
		wantNoFrames(t, "a greatest time below", with(own+plainSigned(time)+chunk)...)
	}
	for c := range 256 {
		wantNoFrames(t, "a byte behind", with(own+greatest+chunk+string([]byte{byte(c)}))...)
	}
	for at := range len(own + greatest + chunk) {
		s := (own + greatest + chunk)[:at]
		if e := wantDecode(t, ended(frames(with(s)...))); (e == api.OK) != (s == own+greatest) {
			t.Errorf("a row's first %d bytes: %v", at, e)
		}
	}
}

// Promise 15.2: a row's points stand in full chunks, but for the last one, and rise from one to the next.
func TestDecodeChunks(t *testing.T) {
	decode := func(data string) api.Errno {
		t.Helper()
		return wantDecode(t, ended(frames(part{2, plainNums(1, 1, 1, 0)}, part{3, text(labelBytes(labels("a", "1"))) + plainSigned(1<<40) + data})))
	}
	want := func(data string, right bool) {
		t.Helper()
		if e := decode(data); (e == api.OK) != right {
			t.Errorf("chunks %.200x: %v", data, e)
		}
	}
	for _, count := range []int{0, 1, 2, 63, 64, 65, 66, 127, 128, 129, 192, 193} {
		l := rising(count, -7)
		for size := 1; size <= 64; size++ {
			want(chunks(l, size), size == 64 || count <= size)
		}
		for at := range count {
			// Two rows of chunks, parted anywhere: right where the first has full ones alone.
			want(chunks(l[:at], 64)+chunks(l[at:], 64), at%64 == 0)
		}
	}
	full := rising(64, 0)
	greatest := full[63].T
	for _, time := range []int64{greatest + 1, greatest, greatest - 1, 0, first, 1 << 40, 1<<40 + 1} {
		want(chunkBytes(full)+chunkBytes(points(time)), time > greatest && time <= 1<<40)
	}
	want(chunkBytes(full)+chunkBytes(full), false)
	for _, bad := range []string{"", "\x00", "\x00\x00", "\x01\x01", "\x01\x01\x00", "\x01\x00", "\x01\x41\x00", strings.Repeat("\xFF", 300)} {
		want(text(bad), false)
		want(chunkBytes(full)+text(bad), false)
		want(text(bad)+chunkBytes(full), false)
	}
	// Each byte of a chunk changed, with sums that are right: other points, or none.
	var seen [20]int
	for _, l := range [][]api.Point{points(5), points(1, 2, 900), rising(66, 3)} {
		data := chunks(l, 64)
		for at := range len(data) {
			for _, c := range []byte{1, 2, 16, 128, 255} {
				s := []byte(data)
				s[at] ^= c
				seen[decode(string(s))]++
			}
		}
	}
	if seen[api.OK] < 20 || seen[api.ErrField] < 20 {
		t.Errorf("told: %v", seen)
	}
}

// Promise 15.2: a delete's bytes are those of a record, which is a delete.
func TestDecodeDeletes(t *testing.T) {
	with := func(count int, l ...string) string {
		p := []part{{2, plainNums(1, 1, 0, uint64(count))}}
		for _, data := range l {
			p = append(p, part{4, data})
		}
		return ended(frames(p...))
	}
	right, e := record.Encode(commit(at(5, 7)))
	if e != api.OK {
		t.Fatal(e)
	}
	good := deleteBytes(cut(-1, 1, some("a")))
	bad := []string{right, "", "\x00", "\x01\x02", "\x01\x03", "\x01\x02\x00", "\x01\x02\x00\x00", "\x01\x02\x00\x00\x00\x00", "\x01\x02\x00\x01\x02\x00", good + "\x00", good[1:], good[:len(good)-1], good + good, text(good)}
	for _, d := range badDeletes() {
		bad = append(bad, deleteBytes(d))
	}
	for _, s := range bad {
		if s == deleteBytes(cut(0, 0)) {
			// The samples of a delete have no bytes, so there it is right.
			continue
		}
		wantNone(t, with(1, s), "a delete that is none")
		wantNone(t, with(3, good, s, good), "a delete that is none")
		wantNone(t, with(3, good, good, s), "a delete that is none")
	}
	for _, d := range goodDeletes() {
		wantBytes(t, Block{First: 1, To: 1, Dels: records(d)}, with(1, deleteBytes(d)))
	}
}

// Promise 15.2: what Check refuses has no bytes, be they written as all others are.
func TestDecodeNotRight(t *testing.T) {
	rows := []Row{
		row(labels("a", "1"), points(1, 5)...),
		row(labels("a", "1", "b", "2")),
		row(labels("a", "2"), points(3)...),
		row(labels("b", "1"), rising(66, 0)...),
		{Labels: labels("A", "1"), Last: 1},
		{Labels: labels("c", "1"), Last: 1, Points: points(2)},
		{Labels: labels("c", "1"), Last: last, Points: append(rising(64, 0), points(5)...)},
	}
	dels := [][]api.Record{nil, records(cut(0, 1)), records(cut(1, 0)), records(cut(0, 1), cut(0, 1, equal("A", "1")))}
	var seen [20]int
	for _, a := range rows {
		for _, b := range rows {
			for _, d := range dels {
				for _, x := range [][2]int{{1, 1}, {1, most}, {0, 1}, {2, 1}, {1, most + 1}} {
					l := Block{First: x[0], To: x[1], Rows: []Row{a, b}, Dels: d}
					e := wantDecode(t, ended(frames(parts(l)...)))
					if (e == api.OK) != (plainCheck(l) == api.OK) {
						t.Errorf("Decode of the bytes of %s: %v", brief(l), e)
					}
					seen[e]++
				}
			}
		}
	}
	if seen[api.OK] < 20 || seen[api.ErrField] < 500 {
		t.Errorf("told: %v", seen)
	}
}

// changed is frames of which something is changed; their sums will be right again.
func changed(l []part, seed int) []part {
	l = slices.Clone(l)
	c := mixed(seed)
	at := int(c >> 8 % uint64(len(l)))
	data := l[at].data
	place := int(c >> 20 % uint64(len(data)+1))
	switch c % 8 {
	case 0:
		return slices.Delete(l, at, at+1)
	case 1:
		return slices.Insert(l, at, l[int(c>>40%uint64(len(l)))])
	case 2:
		l[at].kind = byte(1 + c>>40%6)
	case 3:
		l[at].data = data[:place]
	case 4:
		l[at].data = data[:place] + string([]byte{byte(c >> 40)}) + data[place:]
	default:
		s := []byte(data)
		if place < len(s) {
			s[place] ^= 1 << (c >> 50 % 8)
		}
		l[at].data = string(s)
	}
	return l
}

// Promises 15.2 and 15.4: frames changed anyhow, with sums that are right, against another way.
func TestDecodeIsPlain(t *testing.T) {
	var seen [20]int
	for seed := range 20_000 {
		l := parts(anyBlock(seed % 500))
		for i := range 1 + seed%2 {
			if len(l) > 0 {
				l = changed(l, seed*10+i)
			}
		}
		seen[wantDecode(t, ended(frames(l...)))]++
	}
	if seen[api.OK] < 500 || seen[api.ErrField] < 5000 {
		t.Errorf("told: %v", seen)
	}
}

// Promise 15.4: what Of tells is encoded, and decoded as it was.
func TestWholeSpans(t *testing.T) {
	rows, dels := 0, 0
	for seed := range 800 {
		b, e := Of(1+seed, anyRecords(1+seed%30, seed))
		if e != api.OK {
			continue
		}
		wantWhole(t, b)
		rows, dels = rows+len(b.Rows), dels+len(b.Dels)
	}
	if rows < 500 || dels < 500 {
		t.Errorf("%d rows, %d deletes", rows, dels)
	}
}

// Promise 15.4: as many series as a span may have, with the longest labels and many points.
func TestGreatBlock(t *testing.T) {
	var b Block
	for n := range 256 {
		l := fullLabels()
		l[7].Value = fmt.Sprintf("%s%03d", full[:61], n)
		b.Rows = append(b.Rows, row(l, anyPoints(n*4, n)...))
	}
	b.First, b.To = 5, most
	wantWhole(t, b)
}

// R3: lists that are empty, nil or not.
func TestEmptyLists(t *testing.T) {
	a := Block{First: 1, To: 1, Rows: []Row{{Labels: labels("a", "1"), Points: []api.Point{}}}, Dels: []api.Record{{Kind: api.RDelete, Samples: []api.Sample{}, Matches: []api.Match{}}}}
	wantWhole(t, a)
	b := Block{First: 1, To: 1, Rows: []Row{{Labels: labels("a", "1")}}, Dels: []api.Record{{Kind: api.RDelete}}}
	s, _ := Encode(a)
	if other, e := Encode(b); e != api.OK || other != s {
		t.Errorf("%x, %v; want %x", other, e, s)
	}
	wantWhole(t, Block{First: 1, To: 1, Rows: []Row{}, Dels: []api.Record{}})
}

// R4: what Decode hands out shares nothing with another answer, or with another list of the same one.
func TestDecodeNewMemory(t *testing.T) {
	want := sample()
	want.Dels = append(want.Dels, cut(0, 1, equal("a", "1"), some("b")))
	s, _ := plainEncode(want)
	a, e := Decode(s)
	b, f := Decode(s)
	if e != api.OK || f != api.OK {
		t.Fatal(e, f)
	}
	for i := range a.Rows {
		clear(a.Rows[i].Labels[:cap(a.Rows[i].Labels)])
		clear(a.Rows[i].Points[:cap(a.Rows[i].Points)])
		if !slices.EqualFunc(a.Rows[i+1:], want.Rows[i+1:], sameRow) {
			t.Errorf("row %d shares memory with another one", i)
		}
	}
	for i := range a.Dels {
		clear(a.Dels[i].Matches[:cap(a.Dels[i].Matches)])
		if !slices.EqualFunc(a.Dels[i+1:], want.Dels[i+1:], sameRecord) {
			t.Errorf("delete %d shares memory with another one", i)
		}
	}
	clear(a.Rows[:cap(a.Rows)])
	clear(a.Dels[:cap(a.Dels)])
	if !same(b, want) {
		t.Errorf("an answer shares memory with another one: %s", brief(b))
	}
	if again, e := Decode(s); e != api.OK || !same(again, want) {
		t.Errorf("an answer's memory is kept: %s, %v", brief(again), e)
	}
}

// FuzzBlock: any bytes, and any bytes as frames whose sums are right, against another way.
func FuzzBlock(f *testing.F) {
	f.Add("")
	for seed := range 20 {
		s, _ := plainEncode(anyBlock(seed))
		f.Add(s)
		raw := ""
		for _, p := range parts(anyBlock(seed)) {
			raw += string([]byte{p.kind, byte(len(p.data) >> 8), byte(len(p.data))}) + p.data
		}
		f.Add(raw)
	}
	f.Fuzz(func(t *testing.T, s string) {
		wantDecode(t, s)
		wantDecode(t, ended(s))
		var l []part
		for len(s) >= 3 {
			size := min(int(s[1])<<8|int(s[2]), len(s)-3)
			l = append(l, part{max(1, s[0]), s[3 : 3+size]})
			s = s[3+size:]
		}
		wantDecode(t, ended(frames(l...)))
	})
}

// A span's records as a block, its bytes, and the block of these.
func Example() {
	l := []api.Pair{{Name: "a", Value: "1"}}
	b, e := Of(1, []api.Record{{Kind: api.RCommit, Samples: []api.Sample{{Labels: l, T: 5, V: 7}, {Labels: l, T: 6, V: 8}}}, {Kind: api.RDelete, To: 5}})
	fmt.Println(b, e)
	s, e := Encode(b)
	fmt.Println(len(s), e)
	fmt.Println(Decode(s))
	fmt.Println(Decode(s[1:]))
	// Output:
	// {1 2 [{[{a 1}] 6 [{6 8}]}] [{2 [] [] 0 5}]} error 0
	// 80 error 0
	// {1 2 [{[{a 1}] 6 [{6 8}]}] [{2 [] [] 0 5}]} error 0
	// {0 0 [] []} error 3
}
