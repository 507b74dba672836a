package block

import (
	"strings"

	"barograph/api"
	"barograph/chunk"
	"barograph/digits"
	"barograph/frame"
	"barograph/label"
	"barograph/record"
	"barograph/sum"
)

// The kinds of a block's frames, in the order in which they stand. (The kind 1 is another layer's.)
const (
	headKind = iota + 2
	rowKind
	deleteKind
	endKind
)

// Encode is a block's bytes.
func Encode(b Block) (string, api.Errno) {
	if e := Check(b); e != api.OK {
		return "", e
	}
	var w strings.Builder
	for _, f := range framesOf(b) {
		s, e := frame.Put(f)
		if e != api.OK {
			return "", e
		}
		w.WriteString(s)
	}
	return w.String() + endOf(w.String()), api.OK
}

// framesOf is the frames of a block that is right, but for the last one.
func framesOf(b Block) []frame.Frame {
	l := []frame.Frame{{Kind: headKind, Data: headData(b)}}
	for _, r := range b.Rows {
		l = append(l, frame.Frame{Kind: rowKind, Data: rowData(r)})
	}
	for _, d := range b.Dels {
		// Check has seen to the deletes, so they have bytes.
		s, _ := record.Encode(d)
		l = append(l, frame.Frame{Kind: deleteKind, Data: s})
	}
	return l
}

// headData is what stands in a block's first frame.
func headData(b Block) string {
	s := ""
	for _, n := range [...]int{b.First, b.To, len(b.Rows), len(b.Dels)} {
		s += digits.Num(uint64(n))
	}
	return s
}

// rowData is what stands in the frame of a row that is right.
func rowData(r Row) string {
	var w strings.Builder
	// Check has seen to the labels and the points, so they have bytes.
	labels, _ := label.Encode(r.Labels)
	w.WriteString(digits.Text(labels) + digits.Signed(r.Last))
	for _, part := range chunk.Split(r.Points) {
		s, _ := chunk.Encode(part)
		w.WriteString(digits.Text(s))
	}
	return w.String()
}

// endOf is the last frame behind those bytes.
func endOf(s string) string {
	// Four bytes are never too long.
	end, _ := frame.Put(frame.Frame{Kind: endKind, Data: sum.Bytes(sum.Of(s))})
	return end
}

// Decode is the block of bytes.
func Decode(s string) (Block, api.Errno) {
	b, ok := getBlock(s)
	if !ok || Check(b) != api.OK {
		return Block{}, api.ErrField
	}
	return b, api.OK
}

// getBlock is the block of frames that fill bytes; its parts' order and numbers are not asked for yet.
func getBlock(s string) (Block, bool) {
	rest := s
	next := func(kind int) (string, bool) {
		f, size, e := frame.Get(rest)
		rest = rest[size:]
		return f.Data, e == api.OK && f.Kind == kind
	}
	data, ok := next(headKind)
	if !ok {
		return Block{}, false
	}
	b, rows, dels, ok := getHead(data)
	if !ok {
		return Block{}, false
	}
	// No room is made ahead for as many as are told: there may be far fewer.
	if b.Rows, ok = getAll(rows, rowKind, next, getRow); !ok {
		return Block{}, false
	}
	if b.Dels, ok = getAll(dels, deleteKind, next, getDelete); !ok {
		return Block{}, false
	}
	return b, rest == endOf(s[:len(s)-len(rest)])
}

// getAll is what the data of so many frames of a kind is, which are handed out one by one.
func getAll[T any](count uint64, kind int, next func(kind int) (string, bool), get func(data string) (T, bool)) ([]T, bool) {
	var l []T
	for range count {
		data, ok := next(kind)
		if !ok {
			return nil, false
		}
		x, ok := get(data)
		if !ok {
			return nil, false
		}
		l = append(l, x)
	}
	return l, true
}

// getHead is a block with its numbers, and how many rows and deletes it has.
func getHead(data string) (b Block, rows, dels uint64, ok bool) {
	var l [4]uint64
	for i := range l {
		n, size, e := digits.GetNum(data)
		if e != api.OK {
			return Block{}, 0, 0, false
		}
		l[i], data = n, data[size:]
	}
	// Numbers that are too great may not go into an int; the others Check tells.
	if data != "" || l[0] > mostNumber || l[1] > mostNumber {
		return Block{}, 0, 0, false
	}
	return Block{First: int(l[0]), To: int(l[1])}, l[2], l[3], true
}

// getRow is the row of a frame's data.
func getRow(data string) (Row, bool) {
	text, at, e := digits.GetText(data, api.MaxText)
	if e != api.OK {
		return Row{}, false
	}
	labels, e := label.Decode(text)
	if e != api.OK {
		return Row{}, false
	}
	last, size, e := digits.GetSigned(data[at:])
	if e != api.OK {
		return Row{}, false
	}
	points, ok := getPoints(data[at+size:])
	return Row{Labels: labels, Last: last, Points: points}, ok
}

// getPoints is the points of chunks that fill bytes.
func getPoints(s string) ([]api.Point, bool) {
	var l []api.Point
	for s != "" {
		// Points are split into chunks that are full, and one with the rest: behind that one there is none.
		if len(l)%api.MaxPoints != 0 {
			return nil, false
		}
		text, size, e := digits.GetText(s, api.MaxText)
		if e != api.OK {
			return nil, false
		}
		part, e := chunk.Decode(text)
		if e != api.OK {
			return nil, false
		}
		l, s = append(l, part...), s[size:]
	}
	return l, true
}

// getDelete is the delete of a frame's data.
func getDelete(data string) (api.Record, bool) {
	r, e := record.Decode(data)
	return r, e == api.OK && r.Kind == api.RDelete
}
