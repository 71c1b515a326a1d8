package wal

import (
	"fmt"
	"testing"

	"qanat/api"
	"qanat/disk"
)

// move is a call of a story.
type move struct {
	kind byte // 'A'ppend, 'T'ear, T'r'im
	p    string
	n    int // k of a Tear, the number of a Trim
}

// story has entries that fill a segment, stand alone, begin one, and are torn in each place.
func story() []move {
	return []move{
		{'T', "torn at first", 25}, {'A', "one", 0}, {'A', "two", 0}, {'T', "torn", 7}, {'A', text(4), 0},
		{'A', text(60), 0}, {'T', text(20), 22}, {'T', text(21), 0}, {'A', "", 0}, {'A', "six", 0}, {'r', "", 3},
		{'T', "torn", 3}, {'T', text(40), 50}, {'A', "seven", 0}, {'A', text(30), 0}, {'A', "nine", 0}, {'r', "", 9},
		{'T', text(50), 19}, {'A', text(50), 0}, {'A', "", 0}, {'r', "", 99},
	}
}

// lived is what became of a story, up to where power went.
type lived struct {
	d     *disk.Disk
	kept  map[int64]string // what Append told, and Trim did not take away
	head  int64
	low   int64
	onWay *move // the call at which power went; nil, if there is none
}

// live moves a new log by a story, with power going at the n-th operation.
func live(t *testing.T, l []move, n int) lived {
	t.Helper()
	x := lived{d: disk.New(), kept: map[int64]string{}}
	log := opened(t, x.d, 64)
	x.d.Arm(n)
	for i, m := range l {
		var e api.Errno
		switch m.kind {
		case 'A':
			var lsn int64
			if lsn, e = log.Append([]byte(m.p)); e == api.OK {
				x.kept[lsn] = m.p
			}
		case 'T':
			e = log.Tear([]byte(m.p), m.n)
		case 'r':
			e = log.Trim(int64(m.n))
		}
		if e != api.OK {
			same(t, "power went", e, api.ErrDown)
			x.onWay = &l[i]
			break
		}
	}
	x.low, x.head = log.Low(), log.Head()
	for lsn := range x.kept {
		if lsn < x.low {
			delete(x.kept, lsn)
		}
	}
	x.d.Arm(0)
	return x
}

// loose is how many bytes of a disk are not safe; a log has them in one file alone.
func loose(t *testing.T, d *disk.Disk) int {
	t.Helper()
	n, files := 0, 0
	for _, f := range d.Files() {
		if m := d.Len(f) - d.Synced(f); m > 0 {
			n += m
			files++
		}
	}
	if files > 1 {
		t.Errorf("%d files are not safe", files)
	}
	return n
}

// crashes turns power on again, with so many bytes left of the file that was not safe.
func crashes(d *disk.Disk, keep int) {
	var l []int
	for range d.Files() {
		l = append(l, keep)
	}
	d.Crash(l...)
}

// outlasts asks that a log has what Append told, in its place, and at most the entry more that was on the way.
func outlasts(t *testing.T, what string, l *Log, x lived) {
	t.Helper()
	for lsn, p := range x.kept {
		if got, e := l.Read(lsn); e != api.OK || string(got) != p {
			t.Fatalf("%s: Read(%d): got %q, %d, want %q", what, lsn, got, e, p)
		}
	}
	if l.Low() != x.low && len(x.kept) > 0 {
		t.Fatalf("%s: Low: got %d, want %d", what, l.Low(), x.low)
	}
	switch more := l.Head() - x.head; {
	case more == 0:
	case more == 1 && x.onWay != nil && x.onWay.kind == 'A':
		if got, e := l.Read(l.Head()); e != api.OK || string(got) != x.onWay.p {
			t.Fatalf("%s: the entry on the way: got %q, %d, want %q", what, got, e, x.onWay.p)
		}
	default:
		t.Fatalf("%s: Head: got %d, Append told %d", what, l.Head(), x.head)
	}
}

// TestCrashAtEachOperation: power goes at each operation of a story, with each number of bytes left.
func TestCrashAtEachOperation(t *testing.T) {
	all := live(t, story(), 0)
	more := 0
	for n := 1; n <= all.d.Ops(); n++ {
		x := live(t, story(), n)
		if x.onWay == nil {
			t.Fatalf("power did not go at operation %d", n)
		}
		for keep := range loose(t, x.d) + 1 {
			x := live(t, story(), n)
			what := fmt.Sprintf("operation %d, %d left", n, keep)
			crashes(x.d, keep)
			l := opened(t, x.d, 64)
			outlasts(t, what, l, x)
			more += int(l.Head() - x.head)
			goesOn(t, what, l, x.d)
		}
	}
	if more == 0 {
		t.Error("no entry on the way was ever there")
	}
}

// TestCrashBehindEachCall: power stays on, and the disk crashes between two calls.
func TestCrashBehindEachCall(t *testing.T) {
	for n := range story() {
		whole := live(t, story()[:n], 0)
		for keep := range loose(t, whole.d) + 1 {
			x := live(t, story()[:n], 0)
			what := fmt.Sprintf("behind %d calls, %d left", n, keep)
			crashes(x.d, keep)
			l := opened(t, x.d, 64)
			outlasts(t, what, l, x)
			same(t, what+": no entry more", l.Head(), x.head)
			goesOn(t, what, l, x.d)
		}
	}
}

// TestCrashInOpen: power goes again where a torn log is mended.
func TestCrashInOpen(t *testing.T) {
	all := live(t, story(), 0)
	twice := 0
	for n := 1; n <= all.d.Ops(); n++ {
		for keep := range loose(t, live(t, story(), n).d) + 1 {
			x := live(t, story(), n)
			crashes(x.d, keep)
			x.d.Arm(1)
			if l, e := Open(x.d, base, 64); e == api.ErrDown && l == nil {
				twice++
				x.d.Crash()
			} else if e != api.OK {
				t.Fatalf("Open: got %d", e)
			}
			x.d.Arm(0)
			what := fmt.Sprintf("operation %d, %d left, power goes again", n, keep)
			l := opened(t, x.d, 64)
			outlasts(t, what, l, x)
			goesOn(t, what, l, x.d)
		}
	}
	if twice == 0 {
		t.Error("power never went in Open")
	}
}

// goesOn asks that a log that was opened is one: it takes entries, in a segment and behind it, and is opened anew as it is.
func goesOn(t *testing.T, what string, l *Log, d *disk.Disk) {
	t.Helper()
	same(t, what+": opened anew", told(opened(t, d, 64)), told(l))
	adds(t, l, "more", text(60), "")
	d.Crash()
	same(t, what+": goes on", told(opened(t, d, 64)), told(l))
}

// TestUsedBehindACrash: nothing is said of a log that was not opened anew, but that its calls end.
func TestUsedBehindACrash(t *testing.T) {
	for n := range 5 {
		l, d := filled(t, 64, text(40), "b", "c")
		l.Tear([]byte(text(40)), 30)
		d.Arm(n)
		l.Append([]byte("d"))
		d.Crash()
		for _, f := range d.Files()[min(n, 1):] {
			d.Remove(f)
		}
		for range 3 {
			l.Append([]byte("e"))
			l.Tear([]byte("f"), 5)
			l.Trim(2)
			told(l)
		}
	}
}
