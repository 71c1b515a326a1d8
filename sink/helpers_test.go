package sink

import (
	"fmt"
	"slices"
	"strconv"
	"strings"
	"testing"

	"qanat/api"
	"qanat/batch"
	"qanat/disk"
	"qanat/rec"
	"qanat/seg"
)

// size is the bytes of a segment in most tests: so few that each item has a file of its own.
const size = 64

// lastFile is the last number that a file of the log has.
const lastFile = api.SinkBase + api.MaxSegs - 1

// choice is a row of numbers that look like chance, and are always the same.
type choice uint64

func (c *choice) below(n int) int {
	*c = *c*6364136223846793005 + 1442695040888963407
	return int(uint64(*c) >> 33 % uint64(n))
}

// put is an op that puts a row.
func put(lsn int64, table int, key int64, val string) api.Op {
	return api.Op{Lsn: lsn, Table: table, Key: key, Val: val}
}

// gone is an op that takes a row away.
func gone(lsn int64, table int, key int64) api.Op {
	return api.Op{Lsn: lsn, Table: table, Key: key, Gone: true}
}

// ops is the ops of an item.
func ops(l ...api.Op) []api.Op { return l }

// accept is a note of a request that is accepted.
func accept(id, table, weight int, at int64) api.Note {
	return api.Note{Kind: api.NoteAccept, ID: id, Table: table, Weight: weight, At: at}
}

// chunk is a note of a chunk.
func chunk(id int, cursor int64, done bool) api.Note {
	return api.Note{Kind: api.NoteChunk, ID: id, Cursor: cursor, Done: done}
}

// item is an item of those ops and notes.
func item(lsn int64, l []api.Op, notes ...api.Note) api.Item {
	return api.Item{Lsn: lsn, Ops: l, Notes: notes}
}

// puts is an item with an op for table 0, by which items are told apart.
func puts(lsn int64) api.Item {
	return item(lsn, ops(put(lsn, 0, lsn%5+1, fmt.Sprint("v", lsn))))
}

// The three kinds of faults.
var (
	refuse = api.Fault{Kind: api.FaultRefuse}
	lost   = api.Fault{Kind: api.FaultLost}
)

func tear(keep int) api.Fault { return api.Fault{Kind: api.FaultTear, Keep: keep} }

// laid is the bytes of an item.
func laid(t *testing.T, x api.Item) string {
	t.Helper()
	b, e := batch.Encode(x)
	if e != api.OK {
		t.Fatalf("%+v can't be an item", x)
	}
	return string(b)
}

// laidAll is the bytes of each item of l.
func laidAll(t *testing.T, l ...api.Item) []string {
	t.Helper()
	var all []string
	for _, x := range l {
		all = append(all, laid(t, x))
	}
	return all
}

// record is the bytes of the record that holds p.
func record(p string) string {
	b, _ := rec.Put([]byte(p))
	return string(b)
}

// head is the bytes of a segment's head.
func head(first int64) string {
	b, _ := seg.Head(first)
	return string(b)
}

// part is the bytes of a segment.
func part(first int64, entries ...string) string {
	s := head(first)
	for _, p := range entries {
		s += record(p)
	}
	return s
}

// lay makes a file with these bytes, all of them safe.
func lay(d *disk.Disk, f int, b string) {
	d.Append(f, []byte(b))
	d.Sync(f)
}

// diskOf is a disk with a log of these files, one by one, all of them safe.
func diskOf(files ...string) *disk.Disk {
	d := disk.New()
	for i, b := range files {
		lay(d, api.SinkBase+i, b)
	}
	return d
}

// logOf is a disk with a log of one file, which has these items.
func logOf(t *testing.T, l ...api.Item) *disk.Disk {
	t.Helper()
	return diskOf(part(1, laidAll(t, l...)...))
}

// fullOf is a disk with a log of these items which takes none more: its file is the last one that there may be.
func fullOf(t *testing.T, l ...api.Item) *disk.Disk {
	t.Helper()
	d := disk.New()
	lay(d, lastFile, part(1, laidAll(t, l...)...))
	return d
}

// powerGoes turns power off by an operation on a file that is none of a sink.
func powerGoes(d *disk.Disk) {
	const f = api.SourceBase
	d.Append(f, nil)
	d.Arm(1)
	d.Remove(f)
}

// opened opens a sink that must be one.
func opened(t *testing.T, d *disk.Disk, tables int) *Sink {
	t.Helper()
	k, e := Open(d, tables, size)
	if e != api.OK || k == nil {
		t.Fatalf("Open: got a sink %v, %d, want one", k != nil, e)
	}
	return k
}

// commits commits items that must be taken in.
func commits(t *testing.T, k *Sink, l ...api.Item) {
	t.Helper()
	for _, x := range l {
		if e := k.Commit(x); e != api.OK || k.Lsn() != x.Lsn {
			t.Fatalf("Commit(%s): got %d, Lsn %d, want OK", short(x), e, k.Lsn())
		}
	}
}

// filled is a new sink of 2 tables with these items and faults, and its disk.
func filled(t *testing.T, l []api.Item, faults ...api.Fault) (*Sink, *disk.Disk) {
	t.Helper()
	d := disk.New()
	k := opened(t, d, 2)
	commits(t, k, l...)
	plans(t, k, faults...)
	return k, d
}

// plans puts faults into a sink's plan, which must take all of them.
func plans(t *testing.T, k *Sink, faults ...api.Fault) {
	t.Helper()
	if n := k.Plan().Push(faults...); n != len(faults) {
		t.Fatalf("planned: got %d, want %d", n, len(faults))
	}
}

// short is v as text, with a greater one cut.
func short(v any) string {
	s := fmt.Sprintf("%+v", v)
	if len(s) > 600 {
		return s[:600] + " .."
	}
	return s
}

// state is all that a disk tells.
func state(d *disk.Disk) string {
	var s strings.Builder
	fmt.Fprintf(&s, "%d operations, down %v ", d.Ops(), d.Down())
	for _, f := range d.Files() {
		b, _ := d.Read(f)
		fmt.Fprintf(&s, "[%d: %s, %d safe]", f, strconv.QuoteToASCII(string(b)), d.Synced(f))
	}
	return s.String()
}

// listed is a list as it is told: nil and an empty list are the same.
func listed[T any](l []T, one func(T) string) string {
	var s strings.Builder
	s.WriteString("[")
	for _, x := range l {
		s.WriteString(one(x) + " ")
	}
	return s.String() + "]"
}

// cellsOf is cells as they are told.
func cellsOf(l []api.Cell) string {
	return listed(l, func(c api.Cell) string { return fmt.Sprintf("%d/%d/%v/%q", c.Key, c.Lsn, c.Gone, c.Val) })
}

// rowsOf is rows as they are told.
func rowsOf(l []api.Row) string {
	return listed(l, func(r api.Row) string { return fmt.Sprintf("%d/%q", r.Key, r.Val) })
}

// reqsOf is requests as they are told.
func reqsOf(l []api.Req) string {
	return listed(l, func(r api.Req) string {
		return fmt.Sprintf("%d/%d/%d/%d/%d/%d/%v", r.ID, r.Table, r.Weight, r.At, r.Cursor, r.Chunks, r.Done)
	})
}

// told is all that a sink tells.
func told(k *Sink) string {
	var b strings.Builder
	fmt.Fprintf(&b, "Lsn %d, %d batches, %d faults, requests %s, %d tables", k.Lsn(), k.Batches(), k.Plan().Len(), reqsOf(k.Reqs()), k.Tables())
	for i := -1; i <= k.Tables(); i++ {
		b.WriteString(" " + rowsOf(k.Rows(i)) + cellsOf(k.Cells(i)))
	}
	return b.String()
}

// content is what is in a sink.
type content struct {
	lsn, batches int64
	faults       int
	reqs         []api.Req
	tables       [][]api.Cell
}

// tells is what told is to be of a sink with that content.
func tells(c content) string {
	var b strings.Builder
	fmt.Fprintf(&b, "Lsn %d, %d batches, %d faults, requests %s, %d tables", c.lsn, c.batches, c.faults, reqsOf(c.reqs), len(c.tables))
	for _, cells := range slices.Concat([][]api.Cell{nil}, c.tables, [][]api.Cell{nil}) {
		var rows []api.Row
		for _, cell := range cells {
			if !cell.Gone {
				rows = append(rows, api.Row{Key: cell.Key, Val: cell.Val})
			}
		}
		b.WriteString(" " + rowsOf(rows) + cellsOf(cells))
	}
	return b.String()
}

// same holds two things that are told against each other.
func same[T comparable](t *testing.T, what string, got, want T) {
	t.Helper()
	if got != want {
		t.Errorf("%s:\ngot  %s\nwant %s", what, short(got), short(want))
	}
}

// answers asks that Commit of x answers want, and changes neither the sink nor its disk, but that it uses up so many faults.
func answers(t *testing.T, what string, k *Sink, d *disk.Disk, x api.Item, want api.Errno, used int) {
	t.Helper()
	left := k.Plan().Len() - used
	lsn, batches, reqs, rest := k.Lsn(), k.Batches(), reqsOf(k.Reqs()), tablesOf(k)
	stood := state(d)
	if e := k.Commit(x); e != want {
		t.Errorf("%s: Commit(%s): got %d, want %d", what, short(x), e, want)
	}
	same(t, what+": Lsn", k.Lsn(), lsn)
	same(t, what+": Batches", k.Batches(), batches)
	same(t, what+": Reqs", reqsOf(k.Reqs()), reqs)
	same(t, what+": the replica", tablesOf(k), rest)
	same(t, what+": the faults that are left", k.Plan().Len(), left)
	same(t, what+": the disk", state(d), stood)
}

// tablesOf is what a sink tells of its replica.
func tablesOf(k *Sink) string {
	s := fmt.Sprint(k.Tables())
	for i := -1; i <= k.Tables(); i++ {
		s += " " + rowsOf(k.Rows(i)) + cellsOf(k.Cells(i))
	}
	return s
}

// refuses asks that Commit of x is ErrArg, and changes nothing at all: it uses up no fault.
func refuses(t *testing.T, what string, k *Sink, d *disk.Disk, x api.Item) {
	t.Helper()
	answers(t, what, k, d, x, api.ErrArg, 0)
}

// operation is one of the disk's.
type operation func(d *disk.Disk) api.Errno

func lays(f int, b string) operation {
	return func(d *disk.Disk) api.Errno { return d.Append(f, []byte(b)) }
}

func syncs(f int) operation {
	return func(d *disk.Disk) api.Errno { return d.Sync(f) }
}

func cuts(f, n int) operation {
	return func(d *disk.Disk) api.Errno { return d.Cut(f, n) }
}

func removes(f int) operation {
	return func(d *disk.Disk) api.Errno { return d.Remove(f) }
}

// byHand does operations up to the first that is refused.
func byHand(d *disk.Disk, l []operation) api.Errno {
	for _, do := range l {
		if e := do(d); e != api.OK {
			return e
		}
	}
	return api.OK
}

// does asks that Commit of x does just these operations, in this order: power goes at each of them, and at none, and each
// time the disk must be as one on which they were done by hand. Where none of them fails, want is answered, and the sink
// tells after; else ErrDown, and it tells what it told ahead, but for a fault that is used up.
func does(t *testing.T, what string, before func() (*Sink, *disk.Disk), x api.Item, want api.Errno, after string, l ...operation) {
	t.Helper()
	for n := 1; n <= len(l)+1; n++ {
		at := fmt.Sprintf("%s, power goes at operation %d of %d", what, n, len(l))
		k, d := before()
		was, _ := before()
		was.Plan().Next()
		_, hand := before()
		d.Arm(n)
		hand.Arm(n)
		e := byHand(hand, l)
		got := k.Commit(x)
		same(t, at+": the disk", state(d), state(hand))
		if e == api.OK {
			same(t, at+": the answer", got, want)
			same(t, at+": the sink", told(k), after)
			continue
		}
		same(t, at+": the answer", got, api.ErrDown)
		same(t, at+": the sink", told(k), told(was))
	}
}
