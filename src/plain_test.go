package src

import (
	"cmp"
	"fmt"
	"maps"
	"slices"
	"strings"
	"testing"

	"qanat/api"
	"qanat/disk"
	"qanat/image"
	"qanat/txn"
	"qanat/wal"
)

// plain is the chapter word by word, over a log and a disk of its own: its tables are made anew from bytes at each Open.
type plain struct {
	d      *disk.Disk
	log    *wal.Log
	tables []map[int64]string
	newest int // the newest image's file; -1, if there is none
	lsn    int64
}

// rows is the rows of all tables, rising.
func (p *plain) rows() [][]api.Row {
	var all [][]api.Row
	for _, m := range p.tables {
		var l []api.Row
		for _, key := range slices.SortedFunc(maps.Keys(m), cmp.Compare[int64]) {
			l = append(l, row(key, m[key]))
		}
		all = append(all, l)
	}
	return all
}

// told is what a source is to tell.
func (p *plain) told() string {
	var l []api.Txn
	for lsn := p.log.Low(); lsn <= p.log.Head(); lsn++ {
		b, _ := p.log.Read(lsn)
		x, _ := txn.Decode(b)
		l = append(l, x)
	}
	return tells(p.log.Low(), p.lsn, l, p.rows()...)
}

// apply does changes.
func (p *plain) apply(l []api.Change) {
	for _, c := range l {
		if c.Gone {
			delete(p.tables[c.Table], c.Key)
		} else {
			p.tables[c.Table][c.Key] = c.Val
		}
	}
}

// hasAll tells whether all changes are of tables below n.
func hasAll(l []api.Change, n int) bool {
	for _, c := range l {
		if c.Table < 0 || c.Table >= n {
			return false
		}
	}
	return true
}

// open is P12.1.
func (p *plain) open(tables, segment int) api.Errno {
	if tables < 1 || tables > api.MaxTables {
		return api.ErrArg
	}
	log, e := wal.Open(p.d, api.SourceBase, segment)
	if e != api.OK {
		return e
	}
	var l []api.Txn
	for lsn := log.Low(); lsn <= log.Head(); lsn++ {
		b, _ := log.Read(lsn)
		x, e := txn.Decode(b)
		if e != api.OK || x.Lsn != lsn || !hasAll(x.Changes, tables) {
			return api.ErrForm
		}
		l = append(l, x)
	}
	newest, at := -1, int64(0)
	var picture [][]api.Row
	for f := imageA; f <= imageB; f++ {
		b, there := p.d.Read(f)
		lsn, got, e := image.Decode(b)
		if there && e == api.OK && len(got) == tables && (newest < 0 || lsn > at) {
			newest, at, picture = f, lsn, got
		}
	}
	if at > log.Head() || log.Low() > at+1 {
		return api.ErrForm
	}
	p.log, p.newest, p.lsn, p.tables = log, newest, at, make([]map[int64]string, tables)
	for i := range p.tables {
		p.tables[i] = map[int64]string{}
	}
	for i, l := range picture {
		for _, r := range l {
			p.tables[i][r.Key] = r.Val
		}
	}
	for _, x := range l {
		if x.Lsn > at {
			p.apply(x.Changes)
		}
	}
	return api.OK
}

// fits tells whether each table has at most MaxRows rows behind these changes.
func (p *plain) fits(l []api.Change) bool {
	q := &plain{}
	for _, m := range p.tables {
		q.tables = append(q.tables, maps.Clone(m))
	}
	q.apply(l)
	return !slices.ContainsFunc(q.tables, func(m map[int64]string) bool { return len(m) > api.MaxRows })
}

// add is P12.2, of a transaction whose Kind Commit, or Mark, takes.
func (p *plain) add(x api.Txn) (int64, api.Errno) {
	x.Lsn = 1
	if !txn.May(x) || !hasAll(x.Changes, len(p.tables)) {
		return 0, api.ErrArg
	}
	if p.d.Down() {
		return 0, api.ErrDown
	}
	if !p.fits(x.Changes) {
		return 0, api.ErrFull
	}
	x.Lsn = p.log.Head() + 1
	b, _ := txn.Encode(x)
	lsn, e := p.log.Append(b)
	if e == api.OK {
		p.apply(x.Changes)
	}
	return lsn, e
}

// trim is P12.4.
func (p *plain) trim(lsn int64) api.Errno {
	if lsn < 0 || lsn > p.log.Head() {
		return api.ErrArg
	}
	if p.d.Down() {
		return api.ErrDown
	}
	if lsn > p.lsn {
		f := imageA
		if p.newest == imageA {
			f = imageB
		}
		b, _ := image.Encode(p.log.Head(), p.rows())
		var ops []operation
		if p.d.Len(f) >= 0 {
			ops = append(ops, cuts(f, 0))
		}
		if _, e := byHand(p.d, append(ops, lays(f, string(b)), syncs(f))); e != api.OK {
			return e
		}
		p.newest, p.lsn = f, p.log.Head()
	}
	return p.log.Trim(lsn)
}

// pair is a source and the plain one, each on a disk of its own.
type pair struct {
	d      *disk.Disk
	s      *Source
	p      *plain
	tables int
	size   int
	all    []api.Txn // the transactions since the first one, as long as nobody else wrote; nil otherwise
}

// both does a thing on both disks.
func (x *pair) both(do func(*disk.Disk)) {
	do(x.d)
	do(x.p.d)
}

// alike holds all that the two tell against each other.
func (x *pair) alike(t *testing.T, what string) {
	t.Helper()
	if got, want := state(x.d), state(x.p.d); got != want {
		t.Fatalf("%s: the disk:\ngot  %s\nwant %s", what, got, want)
	}
	if got, want := told(x.s), x.p.told(); got != want {
		t.Fatalf("%s: the source:\ngot  %s\nwant %s", what, got, want)
	}
}

// open opens both; false, if they are no sources.
func (x *pair) open(t *testing.T) bool {
	t.Helper()
	for {
		s, e := Open(x.d, x.tables, x.size)
		if want := x.p.open(x.tables, x.size); e != want || (s == nil) != (e != api.OK) {
			t.Fatalf("Open: got %d, want %d", e, want)
		}
		if got, want := state(x.d), state(x.p.d); got != want {
			t.Fatalf("Open: the disk:\ngot  %s\nwant %s", got, want)
		}
		switch e {
		case api.OK:
			x.s = s
			return true
		case api.ErrDown:
			x.both(func(d *disk.Disk) { d.Crash() })
		default:
			return false
		}
	}
}

// follows asks what follows from the chapter, of a source that was opened: it has what was told, and at most one more.
func (x *pair) follows(t *testing.T) {
	t.Helper()
	if x.all == nil {
		return
	}
	if x.s.Head() == int64(len(x.all)) {
		last, _ := x.s.Read(x.s.Head())
		x.all = append(x.all, last)
	}
	comesTo(t, "what follows", x.s, x.all[1:])
	if t.Failed() {
		t.FailNow()
	}
}

// change is any change, and now and then one that may not be.
func change(b byte, tables int, key byte) api.Change {
	x := api.Change{Table: int(b) % tables, Key: int64(key%12) + 1}
	if b%3 == 0 {
		x.Gone = true
	} else {
		x.Val = strings.Repeat(string('a'+key%26), int(b)%(api.MaxVal+1))
	}
	switch b {
	case 251:
		x.Table = tables
	case 252:
		x.Key = 0
	case 253:
		x.Val = strings.Repeat("z", api.MaxVal+1)
	case 254:
		x.Table = -1
	}
	return x
}

// transaction is any one, which need not be one that may be.
func transaction(b [6]byte, tables int) api.Txn {
	x := client(0)
	for i := range int(b[1]) % 5 {
		x.Changes = append(x.Changes, change(b[2]+byte(i)*b[3], tables, b[4]+byte(i)*b[5]))
	}
	if b[3]%4 == 0 {
		x.Signals = []string{strings.Repeat("s", int(b[5])%42), ""}[:b[4]%3]
	}
	return x
}

// step does one step on both, which six bytes name; false, if that left no source.
func (x *pair) step(t *testing.T, b [6]byte) bool {
	t.Helper()
	what := fmt.Sprintf("step % x", b)
	var got, want api.Errno
	var lsn, number int64
	kind := "CCCCCCCCMMTTTTAAXXSI"[b[0]%20]
	switch kind {
	case 'C', 'M':
		c := transaction(b, x.tables)
		if kind == 'M' {
			c = api.Txn{Kind: api.TxnLow + int(b[1])%2, Mark: int64(b[2]) - 5}
		}
		lsn, got = adds(x.s, c)
		number, want = x.p.add(c)
		if got == api.OK && x.all != nil {
			c.Lsn = lsn
			x.all = append(x.all, c)
		}
	case 'T':
		at := x.s.Low() + int64(int8(b[1]))/12
		if b[2] < 100 {
			at = x.s.Head() - int64(b[1])%4
		}
		got, want = x.s.Trim(at), x.p.trim(at)
	case 'A':
		x.both(func(d *disk.Disk) { d.Arm(int(b[1]) % 9) })
	case 'X', 'S', 'I':
		if kind != 'X' && x.d.Down() {
			break
		}
		if kind == 'X' {
			x.size = []int{64, 64, 100, 300}[b[2]%4]
			x.both(func(d *disk.Disk) { crashes(d, int(b[1])); d.Arm(int(b[3]) % 4) })
		}
		if kind == 'I' {
			x.meddle(t, b)
		}
		if !x.open(t) {
			return false
		}
		x.follows(t)
	}
	if got != want || lsn != number {
		t.Fatalf("%s: got %d, %d, want %d, %d", what, lsn, got, number, want)
	}
	x.alike(t, what)
	return true
}

// meddle is somebody else who writes an image file, or takes it away.
func (x *pair) meddle(t *testing.T, b [6]byte) {
	if b[1] >= 128 {
		return
	}
	x.all = nil
	f := imageA + int(b[2])%2
	tables := make([][]api.Row, x.tables+int(b[3])%8/7)
	tables[0] = rows(row(int64(b[4])+1, "meddled"))
	if len(tables) > api.MaxTables {
		tables = tables[:1]
	}
	whole := picture(t, max(0, x.s.Low()+int64(b[5])%8-2), tables...)
	x.both(func(d *disk.Disk) {
		d.Remove(f)
		switch b[3] % 5 {
		case 0:
		case 1:
			lay(d, f, whole[:int(b[4])%len(whole)])
		default:
			lay(d, f, whole)
		}
	})
}

// run moves a source and the plain one step by step, and holds them against each other.
func run(t *testing.T, tables int, script []byte) int {
	t.Helper()
	x := &pair{d: disk.New(), p: &plain{d: disk.New()}, tables: tables, size: size, all: make([]api.Txn, 1)}
	n := 0
	for x.open(t); len(script) >= 6 && x.step(t, [6]byte(script)); script = script[6:] {
		n++
	}
	return n
}

// anyScript is steps that look like none in particular, the same for the same seed.
func anyScript(seed uint32, steps int) []byte {
	b := make([]byte, 6*steps)
	x := seed
	for i := range b {
		x = x*1664525 + 1013904223
		b[i] = byte(x >> 24)
	}
	return b
}

func TestAnyScript(t *testing.T) {
	n := 0
	for seed := range uint32(120) {
		n += run(t, []int{1, 2, 3, api.MaxTables}[seed%4], anyScript(seed, 120))
	}
	t.Log(n, "steps")
	if n < 10000 {
		t.Errorf("%d steps alone", n)
	}
}

// FuzzSource holds a source against the chapter, word by word, on scripts of any kind.
func FuzzSource(f *testing.F) {
	f.Add(uint8(1), []byte(nil))
	f.Add(uint8(2), []byte{0, 3, 1, 1, 2, 3, 10, 12, 0, 0, 0, 0, 16, 9, 0, 0, 0, 0})
	f.Add(uint8(0), anyScript(1000, 60))
	f.Fuzz(func(t *testing.T, tables uint8, b []byte) { run(t, int(tables)%api.MaxTables+1, b) })
}
