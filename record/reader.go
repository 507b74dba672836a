package record

import (
	"barograph/api"
	"barograph/digits"
	"barograph/label"
	"barograph/match"
)

// reader takes what a record is made of from the front of bytes; what is wrong with them it throws.
type reader struct {
	rest string
}

// throw throws an error; that nothing is wrong is none.
func throw(e api.Errno) {
	if e != api.OK {
		panic(e)
	}
}

// pass goes on behind so many bytes, if nothing was wrong with them.
func (in *reader) pass(size int, e api.Errno) {
	throw(e)
	in.rest = in.rest[size:]
}

// end throws, if bytes are left.
func (in *reader) end() {
	if in.rest != "" {
		throw(api.ErrMore)
	}
}

// number takes a number.
func (in *reader) number() uint64 {
	n, size, e := digits.GetNum(in.rest)
	in.pass(size, e)
	return n
}

// time takes a time.
func (in *reader) time() int64 {
	n, size, e := digits.GetSigned(in.rest)
	in.pass(size, e)
	return n
}

// labels takes a text that is labels' bytes.
func (in *reader) labels() []api.Pair {
	s, size, e := digits.GetText(in.rest, mostLabels)
	in.pass(size, e)
	l, e := label.Decode(s)
	throw(e)
	return l
}

// matches takes matchers.
func (in *reader) matches() []api.Match {
	l, size, e := match.Get(in.rest)
	in.pass(size, e)
	return l
}

// sample takes a sample.
func (in *reader) sample() api.Sample {
	// A literal's calls are done in the order in which they stand.
	return api.Sample{Labels: in.labels(), T: in.time(), V: in.number()}
}

// samples takes a commit's samples.
func (in *reader) samples() []api.Sample {
	count := in.number()
	if !isCount(count) {
		throw(api.ErrRange)
	}
	l := make([]api.Sample, 0, count)
	for range count {
		l = append(l, in.sample())
	}
	return l
}

// record takes a record.
func (in *reader) record() api.Record {
	switch in.number() {
	case api.RCommit:
		return api.Record{Kind: api.RCommit, Samples: in.samples()}
	case api.RDelete:
		return api.Record{Kind: api.RDelete, Matches: in.matches(), From: in.time(), To: in.time()}
	}
	panic(api.ErrKind)
}
