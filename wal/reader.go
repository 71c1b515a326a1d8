package wal

import (
	"bytes"
	"sort"

	"qanat/api"
)

// segment is what stands in one file of a log.
type segment struct {
	file    int
	first   int64 // the number in the head
	entries [][]byte
	size    int // how many bytes the head and the entries have
}

// last is the number of the last entry; one less than first, if there is none.
func (s segment) last() int64 {
	return s.first + int64(len(s.entries)) - 1
}

// reader is the entries of a log. It holds them itself: a file is handed out whole alone, which is much for one entry.
type reader struct {
	segs []segment
}

// Head is the number of the last entry.
func (r *reader) Head() int64 {
	if len(r.segs) == 0 {
		return 0
	}
	return r.segs[len(r.segs)-1].last()
}

// Low is the number of the first entry that is there, or that comes, if there is none.
func (r *reader) Low() int64 {
	if len(r.segs) == 0 {
		return 1
	}
	return r.segs[0].first
}

// Segments is how many segments there are.
func (r *reader) Segments() int {
	return len(r.segs)
}

// Read is what the entry of number lsn holds.
func (r *reader) Read(lsn int64) ([]byte, api.Errno) {
	if lsn < r.Low() || lsn > r.Head() {
		return nil, api.ErrNone
	}
	above := sort.Search(len(r.segs), func(i int) bool { return r.segs[i].first > lsn })
	s := r.segs[above-1]
	return bytes.Clone(s.entries[lsn-s.first]), api.OK
}
