package wal

import (
	"encoding/binary"
	"fmt"
	"strings"
	"testing"

	"qanat/api"
	"qanat/disk"
)

// plain is the chapter word by word: it holds nothing of the entries, and looks at the disk anew each time.
type plain struct {
	d    *disk.Disk
	size int
	left int    // the file that a Tear wrote into; -1, if what it left is gone
	had  int    // how many bytes that had; -1, if it began
	seen string // what the log told when power was on last
}

// plainPart is a segment as it is found in a file.
type plainPart struct {
	file, size int
	first      int64
	entries    []string
}

func (s plainPart) last() int64 {
	return s.first + int64(len(s.entries)) - 1
}

// records is what the records at the front of b hold, and how many bytes they have.
func records(b string) ([]string, int) {
	var l []string
	n := 0
	for len(b)-n >= 8 {
		count := int(binary.BigEndian.Uint32([]byte(b[n : n+4])))
		if count > len(b)-n-8 || !strings.HasPrefix(b[n:], record(b[n+8:n+8+count])) {
			break
		}
		l = append(l, b[n+8:n+8+count])
		n += 8 + count
	}
	return l, n
}

// partIn is the segment in the bytes of a file; false, if they are none.
func partIn(f int, b string) (plainPart, bool) {
	l, n := records(b)
	if len(l) == 0 || len(l[0]) != 11 {
		return plainPart{}, false
	}
	first := int64(binary.BigEndian.Uint64([]byte(l[0][3:])))
	if first < 1 || first > api.MaxLsn || record(l[0]) != head(first) {
		return plainPart{}, false
	}
	return plainPart{f, n, first, l[1:]}, true
}

// files is the log's files, with their bytes.
func (p *plain) files() ([]int, []string) {
	var l []int
	var bytes []string
	for f := base; f < base+api.MaxSegs; f++ {
		if b, ok := p.d.Read(f); ok {
			l = append(l, f)
			bytes = append(bytes, string(b))
		}
	}
	return l, bytes
}

// parts is the segments, without what a Tear left.
func (p *plain) parts() []plainPart {
	var l []plainPart
	files, bytes := p.files()
	for i, f := range files {
		b := bytes[i]
		if f == p.left {
			b = b[:max(p.had, 0)]
		}
		if s, ok := partIn(f, b); ok {
			l = append(l, s)
		}
	}
	return l
}

// told is what a log of these segments tells.
func (p *plain) told() string {
	l := p.parts()
	if len(l) == 0 {
		return tells(1, 0)
	}
	var entries []string
	for _, s := range l {
		entries = append(entries, s.entries...)
	}
	return tells(l[0].first, len(l), entries...)
}

// open is P6.1 of a base and a size that may be.
func (p *plain) open(size int) api.Errno {
	if p.d.Down() {
		return api.ErrDown
	}
	files, bytes := p.files()
	next := int64(0)
	for i, f := range files {
		last := i == len(files)-1
		s, ok := partIn(f, bytes[i])
		switch {
		case f != files[0]+i:
			return api.ErrForm
		case !ok && last:
		case !ok || i > 0 && s.first != next || s.last() > api.MaxLsn:
			return api.ErrForm
		case !last && (s.size != len(bytes[i]) || len(s.entries) == 0):
			return api.ErrForm
		}
		next = s.last() + 1
	}
	p.size, p.left = size, -1
	e := api.OK
	if n := len(files) - 1; n >= 0 {
		if s, ok := partIn(files[n], bytes[n]); !ok {
			e = p.d.Remove(files[n])
		} else if s.size != len(bytes[n]) {
			e = p.d.Cut(files[n], s.size)
		}
	}
	p.seen = p.told()
	return e
}

// append is P6.3, and P6.4 where cut is not below 0.
func (p *plain) append(x string, cut int) (int64, api.Errno) {
	if p.d.Down() {
		return 0, api.ErrDown
	}
	l := p.parts()
	f, had, number, b := base, -1, int64(1), record(x)
	if len(l) > 0 {
		s := l[len(l)-1]
		f, number = s.file+1, s.last()+1
		if len(s.entries) == 0 || s.size+len(b) <= p.size {
			f, had = s.file, s.size
		}
	}
	if had < 0 {
		b = head(number) + b
	}
	if number > api.MaxLsn || f == base+api.MaxSegs {
		return 0, api.ErrFull
	}
	var ops []operation
	if p.left >= 0 && p.had < 0 {
		ops = append(ops, removes(p.left))
	} else if p.left >= 0 {
		ops = append(ops, cuts(p.left, p.had))
	}
	if cut >= 0 {
		ops = append(ops, lays(f, b[:cut%len(b)]))
	} else {
		ops = append(ops, lays(f, b), syncs(f))
	}
	if e := byHand(p.d, ops); e != api.OK {
		return 0, e
	}
	if cut >= 0 {
		p.left, p.had = f, had
		return 0, api.OK
	}
	p.left = -1
	p.seen = p.told()
	return number, api.OK
}

// trim is P6.5.
func (p *plain) trim(lsn int64) api.Errno {
	if p.d.Down() {
		return api.ErrDown
	}
	e := api.OK
	for _, s := range p.parts()[:max(len(p.parts())-1, 0)] {
		if e == api.OK && s.last() <= lsn {
			e = p.d.Remove(s.file)
		}
	}
	p.seen = p.told()
	return e
}

// pair is a log and the plain one, each on a disk of its own.
type pair struct {
	d   *disk.Disk
	log *Log
	p   *plain
}

// alike holds all that the two tell against each other.
func (x *pair) alike(t *testing.T, what string) {
	t.Helper()
	if got, want := state(x.d), state(x.p.d); got != want {
		t.Fatalf("%s: the disk:\ngot  %s\nwant %s", what, got, want)
	}
	if got := told(x.log); got != x.p.seen {
		t.Fatalf("%s: the log:\ngot  %s\nwant %s", what, got, x.p.seen)
	}
}

// open opens both; false, if they are no logs.
func (x *pair) open(t *testing.T, size int) bool {
	t.Helper()
	for {
		l, e := Open(x.d, base, size)
		if want := x.p.open(size); e != want || (l == nil) != (e != api.OK) {
			t.Fatalf("Open: got %d, want %d", e, want)
		}
		if e == api.OK {
			x.log = l
			return true
		}
		if got, want := state(x.d), state(x.p.d); got != want {
			t.Fatalf("Open: the disk:\ngot  %s\nwant %s", got, want)
		}
		if e != api.ErrDown {
			return false
		}
		x.d.Crash()
		x.p.d.Crash()
	}
}

// both does a thing on both disks.
func (x *pair) both(do func(*disk.Disk)) {
	do(x.d)
	do(x.p.d)
}

// step does one step on both, which four bytes name; false, if that left no log.
func (x *pair) step(t *testing.T, b [4]byte) bool {
	t.Helper()
	what := fmt.Sprintf("step % x", b)
	entry := strings.Repeat(string('a'+b[3]%26), int(b[1])%60)
	size := []int{64, 64, 80, 200}[b[2]%4]
	var got, want api.Errno
	var lsn, number int64
	switch "AAAAAAATTTRRMMXSJP"[b[0]%18] {
	case 'A':
		lsn, got = x.log.Append([]byte(entry))
		number, want = x.p.append(entry, -1)
	case 'T':
		got = x.log.Tear([]byte(entry), int(b[2])*2)
		_, want = x.p.append(entry, int(b[2])*2)
	case 'R':
		at := x.log.Low() + int64(int8(b[1]))/16
		got, want = x.log.Trim(at), x.p.trim(at)
	case 'M':
		x.both(func(d *disk.Disk) { d.Arm(int(b[1]) % 8) })
	case 'X':
		x.both(func(d *disk.Disk) { crashes(d, int(b[1])); d.Arm(int(b[3]) % 4) })
		if !x.open(t, size) {
			return false
		}
	case 'S':
		// The log is opened anew without a crash, with what a Tear left.
		if !x.d.Down() && !x.open(t, size) {
			return false
		}
	case 'J':
		// Somebody writes behind the last file.
		if b[1] < 128 && !x.d.Down() && x.log.Segments() > 0 {
			x.both(func(d *disk.Disk) {
				files, _ := x.p.files()
				d.Append(files[len(files)-1], []byte(record(entry))[:int(b[2])%(8+len(entry))+1])
			})
			if !x.open(t, size) {
				return false
			}
		}
	case 'P':
		// Somebody takes a file away.
		if b[1] < 64 && !x.d.Down() {
			x.both(func(d *disk.Disk) { d.Remove(base + int(b[2])%8) })
			if !x.open(t, size) {
				return false
			}
		}
	}
	if got != want || lsn != number {
		t.Fatalf("%s: got %d, %d, want %d, %d", what, lsn, got, number, want)
	}
	x.alike(t, what)
	return true
}

// run moves a log and the plain one step by step, and holds them against each other.
func run(t *testing.T, script []byte) int {
	t.Helper()
	x := &pair{d: disk.New(), p: &plain{d: disk.New()}}
	n := 0
	for x.open(t, 64); len(script) >= 4 && x.step(t, [4]byte(script)); script = script[4:] {
		n++
	}
	return n
}

// anyScript is steps that look like none in particular, the same for the same seed.
func anyScript(seed uint32, steps int) []byte {
	b := make([]byte, 4*steps)
	x := seed
	for i := range b {
		x = x*1664525 + 1013904223
		b[i] = byte(x >> 24)
	}
	return b
}

func TestAnyScript(t *testing.T) {
	n := 0
	for seed := range uint32(300) {
		n += run(t, anyScript(seed, 150))
	}
	t.Log(n, "steps")
}

// FuzzLog holds a log against the chapter, word by word, on scripts of any kind.
func FuzzLog(f *testing.F) {
	f.Add([]byte(nil))
	f.Add([]byte{0, 5, 0, 0, 7, 9, 4, 1, 0, 3, 0, 2, 14, 3, 0, 0})
	f.Add(anyScript(1000, 60))
	f.Fuzz(func(t *testing.T, b []byte) { run(t, b) })
}
