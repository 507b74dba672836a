package manifest

import (
	"strings"

	"barograph/api"
	"barograph/digits"
	"barograph/frame"
)

// frameKind is the kind of a manifest's frame.
const frameKind = 6

// Encode is a manifest's bytes.
func Encode(m Manifest) (string, api.Errno) {
	if e := Check(m); e != api.OK {
		return "", e
	}
	return frame.Put(frame.Frame{Kind: frameKind, Data: dataOf(m)})
}

// dataOf is what stands in the frame of a manifest that is right.
func dataOf(m Manifest) string {
	var w strings.Builder
	for _, n := range [...]int{m.Epoch, m.Base, m.Promise} {
		w.WriteString(digits.Num(uint64(n)))
	}
	w.WriteString(digits.Signed(m.Mark))
	for _, n := range [...]int{m.Check, len(m.Blocks)} {
		w.WriteString(digits.Num(uint64(n)))
	}
	for _, name := range m.Blocks {
		w.WriteString(digits.Text(name))
	}
	return w.String()
}

// Decode is the manifest of bytes.
func Decode(s string) (Manifest, api.Errno) {
	f, size, e := frame.Get(s)
	if e != api.OK || size != len(s) || f.Kind != frameKind {
		return Manifest{}, api.ErrField
	}
	in := reader{rest: f.Data}
	m := in.manifest()
	if in.failed || in.rest != "" || Check(m) != api.OK {
		return Manifest{}, api.ErrField
	}
	return m, api.OK
}

// reader takes what a manifest is made of from the front of bytes. Once it has failed, what it has taken means nothing.
type reader struct {
	rest   string
	failed bool
}

// pass goes on behind so many bytes, and fails, if they were not right.
func (in *reader) pass(size int, right bool) {
	in.rest = in.rest[size:]
	in.failed = in.failed || !right
}

// number takes a number that is not above most. It is 0 once the reader has failed, so that nothing is done as often as wrong bytes tell.
func (in *reader) number(most uint64) int {
	n, size, e := digits.GetNum(in.rest)
	in.pass(size, e == api.OK && n <= most)
	if in.failed {
		return 0
	}
	return int(n)
}

// time takes a time.
func (in *reader) time() int64 {
	n, size, e := digits.GetSigned(in.rest)
	in.pass(size, e == api.OK)
	return n
}

// name takes a name.
func (in *reader) name() string {
	s, size, e := digits.GetText(in.rest, api.MaxName)
	in.pass(size, e == api.OK)
	return s
}

// manifest takes a manifest.
func (in *reader) manifest() Manifest {
	// A literal's calls are done in the order in which they stand.
	m := Manifest{
		Epoch:   in.number(mostNumber),
		Base:    in.number(mostNumber),
		Promise: in.number(mostNumber),
		Mark:    in.time(),
		Check:   in.number(mostNumber),
	}
	for range in.number(api.MaxBlocks) {
		m.Blocks = append(m.Blocks, in.name())
	}
	return m
}
