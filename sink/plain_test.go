package sink

import (
	"cmp"
	"fmt"
	"maps"
	"slices"
	"testing"

	"qanat/api"
	"qanat/batch"
	"qanat/disk"
	"qanat/wal"
)

// plain is the chapter word by word, over a log and a disk of its own.
type plain struct {
	d      *disk.Disk
	log    *wal.Log
	faults []api.Fault
	lsn    int64
	tables []map[int64]api.Cell
	reqs   []api.Req
}

// content is what is in it, of so many items.
func (p *plain) content(batches int64) content {
	c := content{lsn: p.lsn, batches: batches, faults: len(p.faults), reqs: p.reqs}
	for _, m := range p.tables {
		c.tables = append(c.tables, slices.SortedFunc(maps.Values(m), func(a, b api.Cell) int { return cmp.Compare(a.Key, b.Key) }))
	}
	return c
}

// told is what a sink is to tell.
func (p *plain) told() string {
	entries := int64(0)
	for n := p.log.Low(); n <= p.log.Head(); n++ {
		entries++
	}
	return tells(p.content(entries))
}

// plainNote does a note with the requests l, which may be; false, if it can't be done.
func plainNote(l []api.Req, n api.Note) ([]api.Req, bool) {
	if n.Kind == api.NoteAccept {
		for _, r := range l {
			if r.Table == n.Table && !r.Done || r.At > n.At {
				return nil, false
			}
		}
		if len(l) == 64 || n.ID != len(l)+1 {
			return nil, false
		}
		return append(slices.Clone(l), api.Req{ID: n.ID, Table: n.Table, Weight: n.Weight, At: n.At}), true
	}
	for i, r := range l {
		if r.ID == n.ID && !r.Done && n.Cursor >= r.Cursor {
			l = slices.Clone(l)
			l[i].Cursor, l[i].Chunks, l[i].Done = n.Cursor, r.Chunks+1, n.Done
			return l, true
		}
	}
	return nil, false
}

// fits is the word: with the requests behind x.
func (p *plain) fits(x api.Item) ([]api.Req, bool) {
	for _, o := range x.Ops {
		if o.Table >= len(p.tables) {
			return nil, false
		}
	}
	l, ok := p.reqs, batch.May(x)
	for _, n := range x.Notes {
		if ok {
			l, ok = plainNote(l, n)
		}
	}
	return l, ok
}

// take does x, which fits, without laying it down.
func (p *plain) take(x api.Item) {
	p.reqs, _ = p.fits(x)
	for _, o := range x.Ops {
		if p.tables[o.Table][o.Key].Lsn > o.Lsn {
			continue
		}
		p.tables[o.Table][o.Key] = api.Cell{Key: o.Key, Lsn: o.Lsn, Gone: o.Gone, Val: o.Val}
	}
	p.lsn = x.Lsn
}

// open is P18.1.
func (p *plain) open(tables, segment int) api.Errno {
	if tables < 1 || tables > 8 {
		return api.ErrArg
	}
	log, e := wal.Open(p.d, 8192, segment)
	if e != api.OK {
		return e
	}
	q := &plain{d: p.d, log: log}
	for range tables {
		q.tables = append(q.tables, map[int64]api.Cell{})
	}
	for n := log.Low(); n <= log.Head(); n++ {
		b, _ := log.Read(n)
		x, e := batch.Decode(b)
		_, ok := q.fits(x)
		if log.Low() != 1 || e != api.OK || x.Lsn <= q.lsn || !ok {
			return api.ErrForm
		}
		q.take(x)
	}
	*p = *q
	return api.OK
}

// commit is P18.2.
func (p *plain) commit(x api.Item) api.Errno {
	_, ok := p.fits(x)
	old := x.Lsn <= p.lsn
	if !batch.May(x) || !old && !ok {
		return api.ErrArg
	}
	if p.d.Down() {
		return api.ErrDown
	}
	var f api.Fault
	if len(p.faults) > 0 {
		f, p.faults = p.faults[0], p.faults[1:]
	}
	b, _ := batch.Encode(x)
	switch {
	case f.Kind == api.FaultRefuse, f.Kind > 0 && old:
		return api.ErrFault
	case old:
		return api.OK
	case f.Kind == api.FaultTear:
		if e := p.log.Tear(b, f.Keep); e != api.OK {
			return e
		}
		return api.ErrFault
	}
	if _, e := p.log.Append(b); e != api.OK {
		return e
	}
	p.take(x)
	if f.Kind == api.FaultLost {
		return api.ErrFault
	}
	return api.OK
}

// pair is a sink and the plain one, each on a disk of its own.
type pair struct {
	d            *disk.Disk
	k            *Sink
	p            *plain
	tables, size int
}

// both does a thing on both disks.
func (x *pair) both(do func(*disk.Disk)) {
	do(x.d)
	do(x.p.d)
}

// open opens both; where they are refused, they stay as they were, and it tells false.
func (x *pair) open(t *testing.T, what string, tables, segment int) bool {
	t.Helper()
	k, e := Open(x.d, tables, segment)
	want := x.p.open(tables, segment)
	same(t, what, fmt.Sprint(e, k == nil), fmt.Sprint(want, want != api.OK))
	if k != nil {
		x.k, x.tables, x.size = k, tables, segment
	}
	return k != nil
}

// crash lets both lose what is not safe, and opens them anew.
func (x *pair) crash(t *testing.T, what string, keep ...int) {
	t.Helper()
	x.both(func(d *disk.Disk) { d.Crash(keep...) })
	x.open(t, what, x.tables, x.size)
}

// commit tells both an item, and how it went.
func (x *pair) commit(t *testing.T, what string, i api.Item) api.Errno {
	t.Helper()
	e, want := x.k.Commit(i), x.p.commit(i)
	same(t, fmt.Sprintf("%s: Commit(%s)", what, short(i)), e, want)
	return e
}

// plan gives both the same faults.
func (x *pair) plan(t *testing.T, faults ...api.Fault) {
	t.Helper()
	n := x.k.Plan().Push(faults...)
	for _, f := range faults[:n] {
		x.p.faults = append(x.p.faults, f)
	}
}

// alike holds all that the two tell against each other.
func (x *pair) alike(t *testing.T, what string) {
	t.Helper()
	same(t, what+": the disk", state(x.d), state(x.p.d))
	same(t, what+": the sink", told(x.k), x.p.told())
	if t.Failed() {
		t.FailNow() // all that follows would be told as wrong, too
	}
}

// anyOps is ops for an item of that Lsn, most of them of tables that there are.
func anyOps(c *choice, lsn int64, tables int) []api.Op {
	var l []api.Op
	for range c.below(4) {
		o := put(lsn-int64(c.below(int(min(lsn, 6)))), c.below(tables), int64(c.below(4))+1, fmt.Sprint("v", c.below(9)))
		if c.below(3) == 0 {
			o.Gone, o.Val = true, ""
		}
		if c.below(40) == 0 {
			o.Table = c.below(10) - 1
		}
		if c.below(60) == 0 {
			o.Lsn = lsn + 1
		}
		l = append(l, o)
	}
	return l
}

// anyNotes is notes for an item of that Lsn, most of which can be done.
func anyNotes(c *choice, lsn int64, l []api.Req) []api.Note {
	var notes []api.Note
	for range c.below(3) {
		n := accept(len(l)+1, c.below(4), c.below(8)+1, max(lsn-int64(c.below(4)), 1))
		if len(l) > 0 && c.below(3) > 0 {
			r := l[len(l)-1-c.below(min(len(l), 4))]
			n = chunk(r.ID, r.Cursor+int64(c.below(3)), c.below(2) == 0)
		}
		if c.below(30) == 0 {
			n.ID += c.below(3) - 1
		}
		if c.below(30) == 0 {
			n.Cursor -= 2
		}
		// Of what can't be done a piece alone is asked: else hardly an item would fit.
		if next, ok := plainNote(l, n); ok || c.below(5) == 0 {
			notes = append(notes, n)
			if ok {
				l = next
			}
		}
	}
	return notes
}

// anyItem is an item whose Lsn is mostly a little above Lsn.
func anyItem(c *choice, x *pair) api.Item {
	lsn := x.p.lsn + int64(c.below(4)) + 1
	if c.below(5) == 0 {
		lsn = max(x.p.lsn-int64(c.below(3)), 1)
	}
	if c.below(80) == 0 {
		lsn = 0
	}
	return item(lsn, anyOps(c, max(lsn, 1), x.tables), anyNotes(c, max(lsn, 1), x.p.reqs)...)
}

// anyFault is any fault, sometimes one that may not be planned.
func anyFault(c *choice) api.Fault {
	return api.Fault{Kind: c.below(3) + 1, Keep: max(c.below(400)-250, 0)}
}

// step does one thing with both.
func (x *pair) step(t *testing.T, c *choice, what string, did map[string]int) {
	t.Helper()
	switch n := c.below(20); {
	case n < 13:
		i := anyItem(c, x)
		old := i.Lsn <= x.p.lsn
		did[fmt.Sprint(x.commit(t, what, i), " old ", old)]++
	case n < 16:
		x.plan(t, anyFault(c))
	case n < 17:
		k := c.below(4)
		x.both(func(d *disk.Disk) { d.Arm(k) })
	case n < 19 && (x.d.Down() || c.below(3) == 0):
		did["crash"]++
		x.crash(t, what+": opened anew", slices.Repeat([]int{c.below(300)}, len(x.d.Files()))...)
	case c.below(8) == 0:
		if !x.open(t, what+": with other numbers", c.below(10), []int{63, 64, 200, 5000}[c.below(4)]) {
			// What the log was mended by then the elder one does not know of.
			x.open(t, what+": with its own numbers", x.tables, x.size)
			did["not opened with other numbers"]++
			return
		}
		did["opened with other numbers"]++
	}
}

// TestByChance moves a sink and the plain one by the same long scripts.
func TestByChance(t *testing.T) {
	did := map[string]int{}
	for s := range 60 {
		c := choice(s)
		x := &pair{d: disk.New(), p: &plain{d: disk.New()}}
		x.open(t, "new", c.below(8)+1, []int{64, 100, 300, 65536}[c.below(4)])
		for n := range 120 {
			x.step(t, &c, fmt.Sprintf("script %d, step %d", s, n), did)
			x.alike(t, fmt.Sprintf("script %d, step %d", s, n))
		}
	}
	for what, least := range map[string]int{
		"0 old false": 800, "0 old true": 200, "1 old false": 200, "1 old true": 40, "8 old false": 300, "8 old true": 50, "9 old false": 200, "9 old true": 50,
		"crash": 100, "opened with other numbers": 10, "not opened with other numbers": 20,
	} {
		if did[what] < least {
			t.Errorf("%s: %d times, which is seldom", what, did[what])
		}
	}
}
