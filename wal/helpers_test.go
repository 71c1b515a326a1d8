package wal

import (
	"encoding/binary"
	"fmt"
	"hash/crc32"
	"slices"
	"strings"
	"testing"

	"qanat/api"
	"qanat/disk"
)

// base is where the log's files begin in most tests.
const base = 100

// record is the bytes of a record that holds p, by the library's means alone.
func record(p string) string {
	count := binary.BigEndian.AppendUint32(nil, uint32(len(p)))
	sum := crc32.ChecksumIEEE(append(slices.Clone(count), p...))
	return string(binary.BigEndian.AppendUint32(count, sum)) + p
}

// head is the bytes of a segment's head, also of numbers that it may not have.
func head(first int64) string {
	return record(string(binary.BigEndian.AppendUint64([]byte{0, 1, 1}, uint64(first))))
}

// part is the bytes of a segment.
func part(first int64, entries ...string) string {
	b := head(first)
	for _, p := range entries {
		b += record(p)
	}
	return b
}

// diskOf is a disk with these files from base on, one by one, all of them safe.
func diskOf(files ...string) *disk.Disk {
	d := disk.New()
	for i, b := range files {
		lay(d, base+i, b)
	}
	return d
}

// lay makes a file with these bytes, all of them safe.
func lay(d *disk.Disk, f int, b string) {
	d.Append(f, []byte(b))
	d.Sync(f)
}

// powerGoes turns power off by an operation on a file that is no log's.
func powerGoes(d *disk.Disk) {
	d.Append(0, nil)
	d.Arm(1)
	d.Remove(0)
}

// opened opens a log at base that must be one.
func opened(t *testing.T, d *disk.Disk, size int) *Log {
	t.Helper()
	l, e := Open(d, base, size)
	if e != api.OK || l == nil {
		t.Fatalf("Open: got %v, %d, want a log", l != nil, e)
	}
	return l
}

// filled is a new log with these entries, and its disk.
func filled(t *testing.T, size int, entries ...string) (*Log, *disk.Disk) {
	t.Helper()
	d := disk.New()
	l := opened(t, d, size)
	adds(t, l, entries...)
	return l, d
}

// adds appends entries that must be taken, each with the next number.
func adds(t *testing.T, l *Log, entries ...string) {
	t.Helper()
	for _, p := range entries {
		want := l.Head() + 1
		if lsn, e := l.Append([]byte(p)); lsn != want || e != api.OK || l.Head() != want {
			t.Fatalf("Append of %d bytes: got %d, %d, Head %d, want %d, OK", len(p), lsn, e, l.Head(), want)
		}
	}
}

// text is an entry of so many bytes.
func text(n int) string {
	return strings.Repeat("x", n)
}

// short is a text as it is told: a long one by its length and sum.
func short(s string) string {
	if len(s) > 100 {
		return fmt.Sprintf("%d bytes of sum %x", len(s), crc32.ChecksumIEEE([]byte(s)))
	}
	return fmt.Sprintf("%q", s)
}

// shown is all that a disk tells, but for its operations.
func shown(d *disk.Disk) string {
	var s strings.Builder
	for _, f := range d.Files() {
		b, _ := d.Read(f)
		fmt.Fprintf(&s, "[%d: %s, %d safe]", f, short(string(b)), d.Synced(f))
	}
	return s.String()
}

// state is all that a disk tells.
func state(d *disk.Disk) string {
	return fmt.Sprintf("%d operations, down %v %s", d.Ops(), d.Down(), shown(d))
}

// told is all that a log tells: its numbers, and each entry.
func told(l *Log) string {
	var s strings.Builder
	fmt.Fprintf(&s, "%d %d %d", l.Low(), l.Head(), l.Segments())
	for lsn := l.Low() - 1; lsn <= l.Head()+1; lsn++ {
		p, e := l.Read(lsn)
		fmt.Fprintf(&s, " %d:%s/%d", lsn, short(string(p)), e)
	}
	return s.String()
}

// tells is what told is to be of such a log.
func tells(low int64, segments int, entries ...string) string {
	n := low + int64(len(entries)) - 1
	s := fmt.Sprintf("%d %d %d %d:\"\"/%d", low, n, segments, low-1, api.ErrNone)
	for i, p := range entries {
		s += fmt.Sprintf(" %d:%s/%d", low+int64(i), short(p), api.OK)
	}
	return s + fmt.Sprintf(" %d:\"\"/%d", n+1, api.ErrNone)
}

// same holds two things that are told against each other.
func same[T comparable](t *testing.T, what string, got, want T) {
	t.Helper()
	if got != want {
		t.Errorf("%s:\ngot  %v\nwant %v", what, got, want)
	}
}

// refuses asks that a call answers e, and changes neither the log nor its disk.
func refuses(t *testing.T, what string, l *Log, d *disk.Disk, e api.Errno, call func(*Log) (int64, api.Errno)) {
	t.Helper()
	was, stood := told(l), state(d)
	lsn, got := call(l)
	if lsn != 0 || got != e {
		t.Errorf("%s: got %d, %d, want 0, %d", what, lsn, got, e)
	}
	same(t, what+": the log", told(l), was)
	same(t, what+": the disk", state(d), stood)
}

// appends is a call of Append.
func appends(p string) func(*Log) (int64, api.Errno) {
	return func(l *Log) (int64, api.Errno) { return l.Append([]byte(p)) }
}

// tears is a call of Tear.
func tears(p string, k int) func(*Log) (int64, api.Errno) {
	return func(l *Log) (int64, api.Errno) { return 0, l.Tear([]byte(p), k) }
}

// trims is a call of Trim.
func trims(lsn int64) func(*Log) (int64, api.Errno) {
	return func(l *Log) (int64, api.Errno) { return 0, l.Trim(lsn) }
}

// operation is one of the disk's.
type operation func(d *disk.Disk) api.Errno

func lays(f int, b string) operation {
	return func(d *disk.Disk) api.Errno { return d.Append(f, []byte(b)) }
}

func syncs(f int) operation {
	return func(d *disk.Disk) api.Errno { return d.Sync(f) }
}

func cuts(f, n int) operation {
	return func(d *disk.Disk) api.Errno { return d.Cut(f, n) }
}

func removes(f int) operation {
	return func(d *disk.Disk) api.Errno { return d.Remove(f) }
}

// does asks that a call does just these operations, in this order: power goes at each of them, and at none, and each time
// the disk must be as one on which they were done by hand. Where power goes, the log must tell what it told ahead.
func does(t *testing.T, what string, before func() (*Log, *disk.Disk), call func(*Log) (int64, api.Errno), want ...operation) {
	t.Helper()
	for n := 1; n <= len(want)+1; n++ {
		at := fmt.Sprintf("%s, power goes at operation %d of %d", what, n, len(want))
		l, d := before()
		_, hand := before()
		was := told(l)
		d.Arm(n)
		hand.Arm(n)
		e := byHand(hand, want)
		lsn, got := call(l)
		same(t, at+": the answer", got, e)
		same(t, at+": the disk", state(d), state(hand))
		if e != api.OK {
			same(t, at+": its number", lsn, 0)
			same(t, at+": the log", told(l), was)
		}
	}
}

// byHand does operations up to the first that is refused.
func byHand(d *disk.Disk, l []operation) api.Errno {
	for _, do := range l {
		if e := do(d); e != api.OK {
			return e
		}
	}
	return api.OK
}
