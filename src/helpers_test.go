package src

import (
	"fmt"
	"math"
	"slices"
	"strconv"
	"strings"
	"testing"

	"qanat/api"
	"qanat/disk"
	"qanat/image"
	"qanat/rec"
	"qanat/seg"
	"qanat/txn"
)

// size is the bytes of a segment in most tests: so few that each transaction has a file of its own.
const size = 64

// The image files.
const (
	imageA = api.ImageBase
	imageB = api.ImageBase + 1
)

// put is a change that puts a row.
func put(table int, key int64, val string) api.Change {
	return api.Change{Table: table, Key: key, Val: val}
}

// gone is a change that takes a row away.
func gone(table int, key int64) api.Change {
	return api.Change{Table: table, Key: key, Gone: true}
}

// puts is n changes that put rows of one table, with keys from first on.
func puts(table int, first int64, n int) []api.Change {
	l := make([]api.Change, n)
	for i := range l {
		l[i] = put(table, first+int64(i), "v")
	}
	return l
}

// row is a row of that key and that val.
func row(key int64, val string) api.Row { return api.Row{Key: key, Val: val} }

// rows is the rows of a table.
func rows(l ...api.Row) []api.Row { return l }

// client is a client's transaction.
func client(lsn int64, l ...api.Change) api.Txn {
	return api.Txn{Lsn: lsn, Kind: api.TxnClient, Changes: l}
}

// laid is the bytes of a transaction.
func laid(t *testing.T, x api.Txn) string {
	t.Helper()
	b, e := txn.Encode(x)
	if e != api.OK {
		t.Fatalf("%+v can't be a transaction", x)
	}
	return string(b)
}

// laidAll is the bytes of each transaction of l.
func laidAll(t *testing.T, l ...api.Txn) []string {
	t.Helper()
	var all []string
	for _, x := range l {
		all = append(all, laid(t, x))
	}
	return all
}

// record is the bytes of the record that holds p.
func record(p string) string {
	b, _ := rec.Put([]byte(p))
	return string(b)
}

// part is the bytes of a segment.
func part(first int64, entries ...string) string {
	b, _ := seg.Head(first)
	s := string(b)
	for _, p := range entries {
		s += record(p)
	}
	return s
}

// picture is the bytes of an image.
func picture(t *testing.T, lsn int64, tables ...[]api.Row) string {
	t.Helper()
	b, e := image.Encode(lsn, tables)
	if e != api.OK {
		t.Fatalf("%v can't be an image at %d", tables, lsn)
	}
	return string(b)
}

// lay makes a file with these bytes, all of them safe.
func lay(d *disk.Disk, f int, b string) {
	d.Append(f, []byte(b))
	d.Sync(f)
}

// diskOf is a disk with a log of these files, one by one, all of them safe.
func diskOf(files ...string) *disk.Disk {
	d := disk.New()
	for i, b := range files {
		lay(d, api.SourceBase+i, b)
	}
	return d
}

// logOf is a disk with a log of one file, which has these transactions, the first one of number first.
func logOf(t *testing.T, first int64, l ...api.Txn) *disk.Disk {
	t.Helper()
	return diskOf(part(first, laidAll(t, l...)...))
}

// powerGoes turns power off by an operation on a file that is none of a source.
func powerGoes(d *disk.Disk) {
	const f = api.SinkBase
	d.Append(f, nil)
	d.Arm(1)
	d.Remove(f)
}

// opened opens a source that must be one.
func opened(t *testing.T, d *disk.Disk, tables int) *Source {
	t.Helper()
	s, e := Open(d, tables, size)
	if e != api.OK || s == nil {
		t.Fatalf("Open: got %v, %d, want a source", s != nil, e)
	}
	return s
}

// commits commits changes that must be taken, as the next transaction.
func commits(t *testing.T, s *Source, l ...api.Change) {
	t.Helper()
	want := s.Head() + 1
	if lsn, e := s.Commit(nil, l...); lsn != want || e != api.OK || s.Head() != want {
		t.Fatalf("Commit(%+v): got %d, %d, Head %d, want %d, OK", l, lsn, e, s.Head(), want)
	}
}

// fills puts n rows into a table that has none.
func fills(t *testing.T, s *Source, table, n int) {
	t.Helper()
	for at := 0; at < n; at += api.MaxChanges {
		commits(t, s, puts(table, int64(at)+1, min(api.MaxChanges, n-at))...)
	}
}

// trims trims up to lsn, which must be done.
func trims(t *testing.T, s *Source, lsn int64) {
	t.Helper()
	if e := s.Trim(lsn); e != api.OK {
		t.Fatalf("Trim(%d): got %d", lsn, e)
	}
}

// quoted is bytes as plain letters.
func quoted[T string | []byte](b T) string {
	return strconv.QuoteToASCII(string(b))
}

// state is all that a disk tells.
func state(d *disk.Disk) string {
	var s strings.Builder
	fmt.Fprintf(&s, "%d operations, down %v ", d.Ops(), d.Down())
	for _, f := range d.Files() {
		b, _ := d.Read(f)
		fmt.Fprintf(&s, "[%d: %s, %d safe]", f, quoted(b), d.Synced(f))
	}
	return s.String()
}

// some is a transaction as it is told: nil and an empty list are the same.
func some(x api.Txn) string {
	s := fmt.Sprintf("{%d %d %d", x.Lsn, x.Kind, x.Mark)
	for _, c := range x.Changes {
		s += fmt.Sprintf(" %d/%d/%v/%q", c.Table, c.Key, c.Gone, c.Val)
	}
	return s + fmt.Sprintf(" %q}", x.Signals)
}

// list is rows as they are told: nil and an empty list are the same.
func list(l []api.Row) string {
	s := "["
	for _, r := range l {
		s += fmt.Sprintf("%d/%q ", r.Key, r.Val)
	}
	return s + "]"
}

// told is all that a source tells.
func told(s *Source) string {
	var b strings.Builder
	fmt.Fprintf(&b, "%d %d %d %d", s.Low(), s.Head(), s.Image(), s.Tables())
	for lsn := s.Low() - 1; lsn <= s.Head()+1; lsn++ {
		x, e := s.Read(lsn)
		fmt.Fprintf(&b, " %d:%s/%d", lsn, some(x), e)
	}
	for i := -1; i <= s.Tables(); i++ {
		b.WriteString(" " + list(s.Rows(i)) + list(s.Chunk(i, math.MinInt64, math.MaxInt)))
	}
	return b.String()
}

// tells is what told is to be of a source with the transactions l from low on, that image, and these tables.
func tells(low, image int64, l []api.Txn, tables ...[]api.Row) string {
	var b strings.Builder
	n := low + int64(len(l)) - 1
	fmt.Fprintf(&b, "%d %d %d %d", low, n, image, len(tables))
	none := some(api.Txn{})
	fmt.Fprintf(&b, " %d:%s/%d", low-1, none, api.ErrNone)
	for i, x := range l {
		fmt.Fprintf(&b, " %d:%s/%d", low+int64(i), some(x), api.OK)
	}
	fmt.Fprintf(&b, " %d:%s/%d", n+1, none, api.ErrNone)
	for _, rows := range slices.Concat([][]api.Row{nil}, tables, [][]api.Row{nil}) {
		b.WriteString(" " + list(rows) + list(rows))
	}
	return b.String()
}

// same holds two things that are told against each other.
func same[T comparable](t *testing.T, what string, got, want T) {
	t.Helper()
	if got != want {
		t.Errorf("%s:\ngot  %v\nwant %v", what, got, want)
	}
}

// rowsAre holds rows that were answered against those that are asked for.
func rowsAre(t *testing.T, what string, got []api.Row, want ...api.Row) {
	t.Helper()
	if !slices.Equal(got, want) {
		t.Errorf("%s:\ngot  %s\nwant %s", what, list(got), list(want))
	}
}

// call is a call of a source.
type call func(*Source) (int64, api.Errno)

// commit is a call of Commit.
func commit(signals []string, l ...api.Change) call {
	return func(s *Source) (int64, api.Errno) { return s.Commit(signals, l...) }
}

// mark is a call of Mark.
func mark(kind int, n int64) call {
	return func(s *Source) (int64, api.Errno) { return s.Mark(kind, n) }
}

// trim is a call of Trim.
func trim(lsn int64) call {
	return func(s *Source) (int64, api.Errno) { return 0, s.Trim(lsn) }
}

// refuses asks that a call answers e, and changes neither the source nor its disk.
func refuses(t *testing.T, what string, s *Source, d *disk.Disk, e api.Errno, do call) {
	t.Helper()
	was, stood := told(s), state(d)
	lsn, got := do(s)
	if lsn != 0 || got != e {
		t.Errorf("%s: got %d, %d, want 0, %d", what, lsn, got, e)
	}
	same(t, what+": the source", told(s), was)
	same(t, what+": the disk", state(d), stood)
}

// operation is one of the disk's.
type operation func(d *disk.Disk) api.Errno

func lays(f int, b string) operation {
	return func(d *disk.Disk) api.Errno { return d.Append(f, []byte(b)) }
}

func syncs(f int) operation {
	return func(d *disk.Disk) api.Errno { return d.Sync(f) }
}

func cuts(f, n int) operation {
	return func(d *disk.Disk) api.Errno { return d.Cut(f, n) }
}

func removes(f int) operation {
	return func(d *disk.Disk) api.Errno { return d.Remove(f) }
}

// byHand does operations up to the first that is refused, and tells how many were done.
func byHand(d *disk.Disk, l []operation) (int, api.Errno) {
	for i, do := range l {
		if e := do(d); e != api.OK {
			return i, e
		}
	}
	return len(l), api.OK
}

// does asks that a call does just these operations, in this order: power goes at each of them, and at none, and each time
// the disk must be as one on which they were done by hand. What the source tells behind so many done operations is after's.
func does(t *testing.T, what string, before func() (*Source, *disk.Disk), do call, after func(done int) string, want ...operation) {
	t.Helper()
	for n := 1; n <= len(want)+1; n++ {
		at := fmt.Sprintf("%s, power goes at operation %d of %d", what, n, len(want))
		s, d := before()
		_, hand := before()
		d.Arm(n)
		hand.Arm(n)
		done, e := byHand(hand, want)
		lsn, got := do(s)
		same(t, at+": the answer", got, e)
		same(t, at+": the disk", state(d), state(hand))
		same(t, at+": the source", told(s), after(done))
		if e != api.OK {
			same(t, at+": its number", lsn, 0)
		}
	}
}
