package sink

import (
	"fmt"
	"slices"
	"testing"

	"qanat/api"
	"qanat/disk"
)

// move is what is told to a sink, with the fault that is planned for it, if there is one.
type move struct {
	item  api.Item
	fault api.Fault
}

// story has items with ops and notes, with all faults, each torn one and each refused one told again.
func story() []move {
	a, b, c := some()[0], some()[1], some()[2]
	d := item(12, ops(put(11, 0, 5, "e"), gone(12, 0, 2)), chunk(3, 8, true))
	e := item(13, nil, accept(4, 0, 1, 13))
	f := item(20, ops(put(20, 1, 6, "f"), put(19, 0, 9, "g")), chunk(4, 1, false))
	return []move{
		{a, tear(25)}, {a, refuse}, {a, api.Fault{}}, {b, lost}, {b, api.Fault{}}, {c, tear(0)}, {c, tear(1000)}, {c, api.Fault{}},
		{a, api.Fault{}}, {d, lost}, {e, api.Fault{}}, {f, tear(11)}, {f, api.Fault{}},
	}
}

// lived is what became of a story, up to where power went.
type lived struct {
	d   *disk.Disk
	all []api.Item // those that were taken in
	way *api.Item  // the one on the way where power went; nil, if there was none
}

// live moves a new sink by a story, with power going at the n-th operation.
func live(t *testing.T, l []move, segment, n int) lived {
	t.Helper()
	x := lived{d: disk.New()}
	k, _ := Open(x.d, 2, segment)
	x.d.Arm(n)
	for _, m := range l {
		k.Plan().Push(m.fault)
		was := k.Lsn()
		e := k.Commit(m.item)
		if k.Lsn() > was {
			x.all = append(x.all, m.item)
		}
		if x.d.Down() {
			same(t, "power went", e, api.ErrDown)
			x.way = &m.item
			break
		}
		want := api.OK
		if m.fault.Kind != 0 {
			want = api.ErrFault
		}
		same(t, "the answer", e, want)
	}
	x.d.Arm(0)
	comesTo(t, "ahead of the crash", k, x.all)
	return x
}

// comesTo asks that a sink of 2 tables has what those items come to, with no faults.
func comesTo(t *testing.T, what string, k *Sink, l []api.Item) {
	t.Helper()
	p := &plain{tables: []map[int64]api.Cell{{}, {}}}
	for _, x := range l {
		p.take(x)
	}
	same(t, what, told(k), tells(p.content(int64(len(l)))))
}

// crashes turns power on again, with so many bytes left of each file that was not safe.
func crashes(d *disk.Disk, keep int) {
	d.Crash(slices.Repeat([]int{keep}, len(d.Files()))...)
}

// loose is how many bytes of a disk are not safe; a sink has them in one file alone.
func loose(t *testing.T, d *disk.Disk) int {
	t.Helper()
	n, files := 0, 0
	for _, f := range d.Files() {
		if m := d.Len(f) - d.Synced(f); m > 0 {
			n += m
			files++
		}
	}
	if files > 1 {
		t.Errorf("%d files are not safe", files)
	}
	return n
}

// outlasts asks that a sink that was opened behind a crash has what was taken in, and at most the item on the way more: all
// that it has then.
func outlasts(t *testing.T, what string, k *Sink, x lived) []api.Item {
	t.Helper()
	all := x.all
	if x.way != nil && k.Lsn() == x.way.Lsn && k.Batches() > int64(len(all)) {
		all = append(slices.Clone(all), *x.way)
	}
	comesTo(t, what, k, all)
	return all
}

// goesOn asks that a sink takes what is left of a story, all of it told once more, and is opened anew as it is then.
func goesOn(t *testing.T, what string, k *Sink, d *disk.Disk, segment int, all []api.Item) {
	t.Helper()
	for _, m := range story() {
		old := m.item.Lsn <= k.Lsn()
		same(t, what+": the answer", k.Commit(m.item), api.OK)
		if !old {
			all = append(slices.Clone(all), m.item)
		}
	}
	same(t, what+": all of them", len(all), 6)
	comesTo(t, what+": gone on", k, all)
	d.Crash()
	again, e := Open(d, 2, segment)
	if e != api.OK {
		t.Fatalf("%s: opened anew: %d", what, e)
	}
	comesTo(t, what+": opened anew", again, all)
}

// TestCrashAtEachOperation: power goes at each operation of a story, with each number of bytes left.
func TestCrashAtEachOperation(t *testing.T) {
	for _, segment := range []int{64, 300} {
		most, more, none := live(t, story(), segment, 0).d.Ops(), 0, 0
		for n := 1; n <= most; n++ {
			for keep := range loose(t, live(t, story(), segment, n).d) + 1 {
				x := live(t, story(), segment, n)
				what := fmt.Sprintf("segments of %d, operation %d, %d left", segment, n, keep)
				same(t, what+": power went", x.d.Down(), true)
				crashes(x.d, keep)
				k, e := Open(x.d, 2, segment)
				if e != api.OK {
					t.Fatalf("%s: Open: %d", what, e)
				}
				all := outlasts(t, what, k, x)
				if len(all) > len(x.all) {
					more++
				} else {
					none++
				}
				goesOn(t, what, k, x.d, segment, all)
				if t.Failed() {
					t.FailNow() // all that follows would be told as wrong, too
				}
			}
		}
		if more == 0 || none == 0 {
			t.Errorf("segments of %d: %d times the item on the way was there, %d times it was not", segment, more, none)
		}
	}
}

// TestCrashBehindEachCall: power stays on, and the disk crashes between two calls, with each number of bytes left of a torn one.
func TestCrashBehindEachCall(t *testing.T) {
	for n := range len(story()) + 1 {
		for keep := range loose(t, live(t, story()[:n], size, 0).d) + 1 {
			x := live(t, story()[:n], size, 0)
			what := fmt.Sprintf("behind %d calls, %d left", n, keep)
			crashes(x.d, keep)
			k := opened(t, x.d, 2)
			all := outlasts(t, what, k, x)
			same(t, what+": no item more", len(all), len(x.all))
			goesOn(t, what, k, x.d, size, all)
		}
	}
}

// TestCrashInOpen: power goes again where a torn log is mended.
func TestCrashInOpen(t *testing.T) {
	most, twice := live(t, story(), size, 0).d.Ops(), 0
	for n := 1; n <= most; n++ {
		for keep := range loose(t, live(t, story(), size, n).d) + 1 {
			x := live(t, story(), size, n)
			crashes(x.d, keep)
			x.d.Arm(1)
			if k, e := Open(x.d, 2, size); k == nil && e == api.ErrDown {
				twice++
				x.d.Crash()
			} else if e != api.OK {
				t.Fatalf("Open: %d", e)
			}
			x.d.Arm(0)
			what := fmt.Sprintf("operation %d, %d left, power goes again", n, keep)
			k := opened(t, x.d, 2)
			goesOn(t, what, k, x.d, size, outlasts(t, what, k, x))
			if t.Failed() {
				t.FailNow()
			}
		}
	}
	if twice == 0 {
		t.Error("power never went in Open")
	}
}

// TestUsedBehindACrash: nothing is said of a sink that was not opened anew, but that its calls end.
func TestUsedBehindACrash(t *testing.T) {
	for n := range 8 {
		for _, f := range kinds() {
			k, d := filled(t, some()[:1], f, lost, tear(2), refuse)
			d.Arm(n)
			k.Commit(some()[1])
			d.Crash()
			for _, f := range d.Files()[min(n, 1):] {
				d.Remove(f)
			}
			for i := range 6 {
				k.Commit(some()[i%3])
				told(k)
			}
		}
	}
}
