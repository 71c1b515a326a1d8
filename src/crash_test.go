package src

import (
	"fmt"
	"testing"

	"qanat/api"
	"qanat/disk"
	"qanat/fold"
)

// move is a call of a story: a transaction, or a Trim up to n.
type move struct {
	x    api.Txn
	trim int64
}

// adding is a move that commits changes.
func adding(l ...api.Change) move { return move{x: client(0, l...)} }

// marking is a move that makes a mark.
func marking(kind int, n int64) move { return move{x: api.Txn{Kind: kind, Mark: n}} }

// trimming is a move that trims.
func trimming(lsn int64) move { return move{trim: lsn} }

// story has images into both files, over elder ones, and logs that are trimmed in part, and as far as may be.
func story() []move {
	return []move{
		adding(put(0, 5, "a"), put(1, 3, "b")), adding(put(0, 1, "c"), gone(1, 3)), trimming(1), marking(api.TxnLow, 3),
		{x: api.Txn{Kind: api.TxnClient, Changes: []api.Change{put(1, 9, "d")}, Signals: []string{"snapshot 1"}}},
		trimming(4), adding(gone(0, 5), put(0, 6, "e")), adding(), trimming(6), trimming(2), marking(api.TxnHigh, 3),
		adding(put(0, 6, "f"), put(1, 1, "g")), trimming(8), adding(gone(0, 1), gone(0, 6), gone(1, 9)), trimming(9), adding(put(0, 2, "h")),
	}
}

// lived is what became of a story, up to where power went.
type lived struct {
	d     *disk.Disk
	all   []api.Txn // what was told, the first one first
	low   int64
	image int64
	next  *api.Txn // the transaction on the way where power went; nil, if there was none
}

// live moves a new source by a story, with power going at the n-th operation; each Trim must leave the tables as they are.
func live(t *testing.T, l []move, segment, n int) lived {
	t.Helper()
	x := lived{d: disk.New()}
	s, e := Open(x.d, 2, segment)
	x.d.Arm(n)
	for _, m := range l {
		if m.x.Kind == 0 {
			e = s.Trim(m.trim)
		} else {
			m.x.Lsn = s.Head() + 1
			_, e = adds(s, m.x)
			if e == api.OK {
				x.all = append(x.all, m.x)
			} else {
				x.next = &m.x
			}
		}
		comesTo(t, "ahead of the crash", s, x.all)
		if e != api.OK {
			same(t, "power went", e, api.ErrDown)
			break
		}
	}
	x.low, x.image = s.Low(), s.Image()
	x.d.Arm(0)
	return x
}

// comesTo asks that a source has the transactions l, those of them that were not trimmed one by one, and the tables by all.
func comesTo(t *testing.T, what string, s *Source, l []api.Txn) {
	t.Helper()
	same(t, what+": Head", s.Head(), int64(len(l)))
	for lsn := s.Low(); lsn <= s.Head(); lsn++ {
		got, e := s.Read(lsn)
		same(t, fmt.Sprintf("%s: Read(%d)", what, lsn), some(got)+fmt.Sprint(e), some(l[lsn-1])+fmt.Sprint(api.OK))
	}
	for i, want := range fold.Fold(s.Tables(), l, len(l)) {
		rowsAre(t, fmt.Sprintf("%s: table %d", what, i), s.Rows(i), want...)
	}
}

// loose is how many bytes of a disk are not safe; a source has them in one file alone.
func loose(t *testing.T, d *disk.Disk) int {
	t.Helper()
	n, files := 0, 0
	for _, f := range d.Files() {
		if m := d.Len(f) - d.Synced(f); m > 0 {
			n += m
			files++
		}
	}
	if files > 1 {
		t.Errorf("%d files are not safe", files)
	}
	return n
}

// crashes turns power on again, with so many bytes left of the file that was not safe.
func crashes(d *disk.Disk, keep int) {
	var l []int
	for range d.Files() {
		l = append(l, keep)
	}
	d.Crash(l...)
}

// outlasts asks that a source that was opened behind a crash has what was told, and at most the transaction on the way more:
// all that it has then.
func outlasts(t *testing.T, what string, s *Source, x lived) []api.Txn {
	t.Helper()
	all := x.all
	if x.next != nil && s.Head() > int64(len(all)) {
		all = append(all, *x.next)
	}
	comesTo(t, what, s, all)
	if s.Low() != x.low {
		t.Errorf("%s: Low: got %d, want %d", what, s.Low(), x.low)
	}
	if s.Image() < x.image || s.Image() > s.Head() {
		t.Errorf("%s: Image: got %d, it was %d", what, s.Image(), x.image)
	}
	return all
}

// goesOn asks that a source that was opened is one: it takes transactions, is trimmed, and is opened anew as it is.
func goesOn(t *testing.T, what string, s *Source, d *disk.Disk, segment int, all []api.Txn) {
	t.Helper()
	again := func() {
		t.Helper()
		d.Crash()
		o, e := Open(d, 2, segment)
		if e != api.OK {
			t.Fatalf("%s: opened anew: %d", what, e)
		}
		same(t, what+": opened anew", told(o), told(s))
	}
	again()
	for i := range 2 {
		x := client(int64(len(all))+1, put(0, 5, fmt.Sprint("more ", i)), put(1, 77, ""), gone(0, 2))
		commits(t, s, x.Changes...)
		all = append(all[:len(all):len(all)], x)
		again()
		trims(t, s, s.Head())
		comesTo(t, what+", trimmed", s, all)
		again()
	}
}

// TestCrashAtEachOperation: power goes at each operation of a story, with each number of bytes left.
func TestCrashAtEachOperation(t *testing.T) {
	for _, segment := range []int{64, 200} {
		ops := live(t, story(), segment, 0).d.Ops()
		more, newer := 0, 0
		for n := 1; n <= ops; n++ {
			for keep := range loose(t, live(t, story(), segment, n).d) + 1 {
				x := live(t, story(), segment, n)
				what := fmt.Sprintf("segments of %d, operation %d, %d left", segment, n, keep)
				same(t, what+": power went", x.d.Down(), true)
				crashes(x.d, keep)
				s, e := Open(x.d, 2, segment)
				if e != api.OK {
					t.Fatalf("%s: Open: %d", what, e)
				}
				all := outlasts(t, what, s, x)
				more += len(all) - len(x.all)
				if s.Image() > x.image {
					newer++
				}
				goesOn(t, what, s, x.d, segment, all)
				if t.Failed() {
					t.FailNow() // all that follows would be told as wrong, too
				}
			}
		}
		if more == 0 || newer == 0 {
			t.Errorf("segments of %d: %d times the transaction on the way was there, %d times the image", segment, more, newer)
		}
	}
}

// TestCrashBehindEachCall: power stays on, and the disk crashes between two calls.
func TestCrashBehindEachCall(t *testing.T) {
	for n := range len(story()) + 1 {
		x := live(t, story()[:n], size, 0)
		what := fmt.Sprintf("behind %d calls", n)
		same(t, what+": all is safe", loose(t, x.d), 0)
		x.d.Crash()
		s := opened(t, x.d, 2)
		all := outlasts(t, what, s, x)
		same(t, what+": no transaction more", len(all), len(x.all))
		same(t, what+": Image", s.Image(), x.image)
		goesOn(t, what, s, x.d, size, all)
	}
}

// TestCrashInOpen: power goes again where a torn log is mended.
func TestCrashInOpen(t *testing.T) {
	ops, twice := live(t, story(), size, 0).d.Ops(), 0
	for n := 1; n <= ops; n++ {
		for keep := range loose(t, live(t, story(), size, n).d) + 1 {
			x := live(t, story(), size, n)
			crashes(x.d, keep)
			x.d.Arm(1)
			if s, e := Open(x.d, 2, size); s == nil && e == api.ErrDown {
				twice++
				x.d.Crash()
			} else if e != api.OK {
				t.Fatalf("Open: %d", e)
			}
			x.d.Arm(0)
			what := fmt.Sprintf("operation %d, %d left, power goes again", n, keep)
			s := opened(t, x.d, 2)
			goesOn(t, what, s, x.d, size, outlasts(t, what, s, x))
			if t.Failed() {
				t.FailNow()
			}
		}
	}
	if twice == 0 {
		t.Error("power never went in Open")
	}
}

// TestUsedBehindACrash: nothing is said of a source that was not opened anew, but that its calls end.
func TestUsedBehindACrash(t *testing.T) {
	for n := range 8 {
		d := disk.New()
		s := opened(t, d, 2)
		commits(t, s, put(0, 1, "a"))
		commits(t, s, put(0, 2, "b"))
		trims(t, s, 1)
		d.Arm(n)
		s.Commit(nil, put(0, 3, "c"))
		s.Trim(s.Head())
		d.Crash()
		for _, f := range d.Files()[min(n, 1):] {
			d.Remove(f)
		}
		for range 3 {
			s.Commit(nil, put(0, 4, "d"))
			s.Mark(api.TxnLow, 1)
			s.Trim(s.Head())
			told(s)
		}
	}
}
