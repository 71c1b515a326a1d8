package wal

import (
	"bytes"
	"fmt"
	"math"
	"slices"
	"testing"

	"qanat/api"
	"qanat/disk"
)

func TestExample(t *testing.T) {
	d := disk.New()
	l := opened(t, d, 64)
	for i, p := range []string{"a", "b"} {
		if lsn, e := l.Append([]byte(p)); lsn != int64(i+1) || e != api.OK {
			t.Errorf("Append(%s): got %d, %d, want %d", p, lsn, e, i+1)
		}
	}
	same(t, "both in one segment", shown(d), shown(diskOf(part(1, "a", "b"))))
	same(t, "Trim(1)", l.Trim(1), api.OK)
	same(t, "Low stays", told(l), tells(1, 1, "a", "b"))
}

// TestReadOfOtherNumbers: none from below Low, none from above Head.
func TestReadOfOtherNumbers(t *testing.T) {
	l, d := filled(t, 64, text(40), text(40), "c", "d")
	l.Trim(1)
	for range 2 {
		same(t, "trimmed", told(l), tells(2, 2, text(40), "c", "d"))
		for _, lsn := range []int64{math.MinInt64, -1, 0, 1, 5, 6, api.MaxLsn, api.MaxLsn + 1, math.MaxInt64} {
			if p, e := l.Read(lsn); len(p) != 0 || e != api.ErrNone {
				t.Errorf("Read(%d): got %q, %d, want ErrNone alone", lsn, p, e)
			}
		}
		powerGoes(d) // and the same with power off
	}
}

func TestReadOfALogWithoutEntries(t *testing.T) {
	for _, x := range []struct {
		d    *disk.Disk
		want string
	}{
		{disk.New(), tells(1, 0)},
		{diskOf(part(1)), tells(1, 1)},
		{diskOf(part(9)), tells(9, 1)},
		{diskOf(part(9)[:18]), tells(1, 0)},
	} {
		l := opened(t, x.d, 64)
		same(t, "without entries", told(l), x.want)
		powerGoes(x.d)
		same(t, "with power off", told(l), x.want)
	}
}

// TestTrimBehindALastSegmentWithoutEntries: then Low is above Head.
func TestTrimBehindALastSegmentWithoutEntries(t *testing.T) {
	d := diskOf(part(4, "a", "b"), part(6))
	l := opened(t, d, 64)
	same(t, "two, and none", told(l), tells(4, 2, "a", "b"))
	same(t, "Trim", l.Trim(5), api.OK)
	same(t, "none", told(l), tells(6, 1))
	same(t, "Low, Head", fmt.Sprint(l.Low(), l.Head()), "6 5")
	same(t, "Trim of the last", l.Trim(6), api.OK)
	same(t, "opened anew", told(opened(t, d, 64)), tells(6, 1))
	adds(t, l, text(100))
	same(t, "goes on", shown(d), fmt.Sprintf("[%d: %s, 127 safe]", base+1, short(part(6, text(100)))))
}

func TestReadOverManySegments(t *testing.T) {
	var all []string
	for i := range 200 {
		all = append(all, fmt.Sprint(i, text(i%30)))
	}
	for _, size := range []int{64, 100, 1000, 65536} {
		l, d := filled(t, size, all...)
		same(t, "all", told(l), tells(1, l.Segments(), all...))
		same(t, "as many files", len(d.Files()), l.Segments())
		same(t, "opened anew", told(opened(t, d, size)), told(l))
	}
}

func TestAppendFillsToSize(t *testing.T) {
	for _, size := range []int{64, 65, 100, 4096, 65536} {
		for over := -1; over <= 1; over++ {
			l, d := filled(t, size, "a")
			p := text(size - 19 - 9 - 8 + over)
			adds(t, l, p)
			want := diskOf(part(1, "a", p))
			if over > 0 {
				want = diskOf(part(1, "a"), part(2, p))
			}
			same(t, fmt.Sprint("size ", size, ", over ", over), shown(d), shown(want))
			same(t, "operations", d.Ops(), 4)
			adds(t, l, "")
			if over == -1 && l.Segments() != 2 {
				t.Errorf("size %d: one byte is left, and 8 went into it", size)
			}
		}
	}
}

// TestAppendOfOneThatIsLongerThanSize: it stands alone, and nothing goes behind it.
func TestAppendOfOneThatIsLongerThanSize(t *testing.T) {
	for _, n := range []int{37, 38, 64, 1000} {
		p := text(n)
		l, d := filled(t, 64, p, "", p, p, "a", "b")
		want := diskOf(part(1, p), part(2, ""), part(3, p), part(4, p), part(5, "a", "b"))
		same(t, fmt.Sprint("entries of ", n), shown(d), shown(want))
		same(t, fmt.Sprint("entries of ", n), told(l), tells(1, 5, p, "", p, p, "a", "b"))
	}
}

func TestAppendIntoASegmentWithoutEntries(t *testing.T) {
	for _, n := range []int{0, 1, 37, 38, 5000} {
		d := diskOf(part(3, "a"), part(4))
		l := opened(t, d, 64)
		adds(t, l, text(n))
		same(t, fmt.Sprint("an entry of ", n), shown(d), shown(diskOf(part(3, "a"), part(4, text(n)))))
		same(t, fmt.Sprint("an entry of ", n), told(l), tells(3, 2, "a", text(n)))
	}
}

func TestAppendOfTheGreatest(t *testing.T) {
	great := text(api.MaxRecord)
	l, d := filled(t, 64, "a", great, "b")
	same(t, "the disk", shown(d), shown(diskOf(part(1, "a"), part(2, great), part(3, "b"))))
	same(t, "the log", told(l), tells(1, 3, "a", great, "b"))
	same(t, "opened anew", told(opened(t, d, 64)), told(l))
	for n := 1; n <= 2; n++ {
		refuses(t, "a greater one", l, d, api.ErrArg, appends(great+text(n)))
		refuses(t, "a greater one, torn", l, d, api.ErrArg, tears(great+text(n), 5))
	}
	adds(t, l, "c")
}

// atMaxLsn is a log without a number left; full is one without a file left, whose last one has room for 10 bytes more.
func atMaxLsn(t *testing.T) (*Log, *disk.Disk) {
	d := diskOf(part(api.MaxLsn, "a"))
	return opened(t, d, 64), d
}

func full(t *testing.T) (*Log, *disk.Disk) {
	d := disk.New()
	lay(d, base+api.MaxSegs-1, part(1, text(19)))
	return opened(t, d, 64), d
}

func TestAppendUpToMaxLsn(t *testing.T) {
	for _, p := range []string{"b", text(60)} {
		d := diskOf(part(api.MaxLsn-1, "a"))
		l := opened(t, d, 64)
		adds(t, l, p)
		same(t, "the last number", l.Head(), api.MaxLsn)
		refuses(t, "none more", l, d, api.ErrFull, appends(""))
		same(t, "opened anew", told(opened(t, d, 64)), told(l))
	}
	l, d := atMaxLsn(t)
	for _, p := range []string{"", "b", text(60)} {
		refuses(t, "none more", l, d, api.ErrFull, appends(p))
		refuses(t, "none more, torn", l, d, api.ErrFull, tears(p, 3))
	}
	same(t, "Trim", l.Trim(api.MaxLsn), api.OK)
	same(t, "it stays", told(l), tells(api.MaxLsn, 1, "a"))
	d = diskOf(part(api.MaxLsn))
	l = opened(t, d, 64)
	adds(t, l, text(60))
	refuses(t, "none behind the one", l, d, api.ErrFull, appends(""))
}

func TestAppendWithoutAFileLeft(t *testing.T) {
	l, d := full(t)
	refuses(t, "a new file", l, d, api.ErrFull, appends(text(11)))
	refuses(t, "a new file, torn", l, d, api.ErrFull, tears(text(11), 3))
	refuses(t, "a new file, nothing of it", l, d, api.ErrFull, tears(text(11), 0))
	adds(t, l, text(10))
	refuses(t, "none more", l, d, api.ErrFull, appends(""))
	// A segment without entries takes any one, so that it is no matter of files.
	d = disk.New()
	lay(d, base+api.MaxSegs-1, part(1))
	l = opened(t, d, 64)
	adds(t, l, text(1000))
	d = disk.New()
	lay(d, base+api.MaxSegs-2, part(1, text(30)))
	l = opened(t, d, 64)
	adds(t, l, text(30))
	same(t, "the last file", fmt.Sprint(d.Files()), fmt.Sprint([]int{base + api.MaxSegs - 2, base + api.MaxSegs - 1}))
	refuses(t, "none behind the last", l, d, api.ErrFull, appends(text(30)))
}

// TestRefusedInOrder: ErrArg, then ErrDown, then ErrFull.
func TestRefusedInOrder(t *testing.T) {
	for _, before := range []func(*testing.T) (*Log, *disk.Disk){atMaxLsn, full} {
		l, d := before(t)
		great := text(api.MaxRecord + 1)
		for range 2 {
			refuses(t, "too long", l, d, api.ErrArg, appends(great))
			refuses(t, "too long, torn", l, d, api.ErrArg, tears(great, 1))
			refuses(t, "too long, below 0", l, d, api.ErrArg, tears(great, -1))
			for _, k := range []int{math.MinInt, -100, -1} {
				refuses(t, "below 0", l, d, api.ErrArg, tears(text(60), k))
			}
			powerGoes(d)
		}
		refuses(t, "power is off", l, d, api.ErrDown, appends(text(60)))
		refuses(t, "power is off, torn", l, d, api.ErrDown, tears(text(60), 1))
	}
}

func TestWithPowerOff(t *testing.T) {
	for _, torn := range []bool{false, true} {
		l, d := filled(t, 64, text(40), text(40), "c")
		if torn {
			l.Tear([]byte("d"), 5)
		}
		powerGoes(d)
		refuses(t, "Append", l, d, api.ErrDown, appends(""))
		refuses(t, "Tear", l, d, api.ErrDown, tears("", 0))
		for _, lsn := range []int64{math.MinInt64, 0, 1, 2, 9} {
			refuses(t, "Trim", l, d, api.ErrDown, trims(lsn))
		}
		same(t, "it tells all", told(l), tells(1, 3, text(40), text(40), "c"))
	}
}

func TestWhatAppendDoes(t *testing.T) {
	does(t, "the first", func() (*Log, *disk.Disk) { return filled(t, 64) }, appends("abc"),
		lays(base, part(1, "abc")), syncs(base))
	does(t, "the first, long", func() (*Log, *disk.Disk) { return filled(t, 64) }, appends(text(90)),
		lays(base, part(1, text(90))), syncs(base))
	does(t, "behind another", func() (*Log, *disk.Disk) { return filled(t, 64, "a") }, appends("abc"),
		lays(base, record("abc")), syncs(base))
	does(t, "behind another in the second file", func() (*Log, *disk.Disk) { return filled(t, 100, text(50), text(50)) }, appends("abc"),
		lays(base+1, record("abc")), syncs(base+1))
	does(t, "into the third file", func() (*Log, *disk.Disk) { return filled(t, 100, text(50), text(50)) }, appends(text(16)),
		lays(base+2, part(3, text(16))), syncs(base+2))
	behindHead := func() (*Log, *disk.Disk) {
		d := diskOf(part(3, "a"), part(4))
		return opened(t, d, 64), d
	}
	does(t, "behind a head alone", behindHead, appends(text(90)), lays(base+1, record(text(90))), syncs(base+1))
}

// torn is a log of one segment, of which one Tear or more behind each other left something.
func torn(t *testing.T, entries []string, calls ...func(*Log) (int64, api.Errno)) func() (*Log, *disk.Disk) {
	return func() (*Log, *disk.Disk) {
		l, d := filled(t, 64, entries...)
		was := told(l)
		for _, call := range calls {
			if _, e := call(l); e != api.OK {
				t.Fatalf("Tear: got %d", e)
			}
		}
		same(t, "a Tear is not seen", told(l), was)
		return l, d
	}
}

func TestWhatAppendDoesBehindATear(t *testing.T) {
	one := []string{"one"} // 30 bytes
	for _, k := range []int{0, 1, 7, 8, 12} {
		does(t, "in the same file", torn(t, one, tears("other", k)), appends("abc"),
			cuts(base, 30), lays(base, record("abc")), syncs(base))
		does(t, "in the same file, on to a new one", torn(t, one, tears("other", k)), appends(text(40)),
			cuts(base, 30), lays(base+1, part(2, text(40))), syncs(base+1))
	}
	for _, k := range []int{0, 1, 18, 19, 30, 66} {
		does(t, "that began a file", torn(t, one, tears(text(40), k)), appends(text(50)),
			removes(base+1), lays(base+1, part(2, text(50))), syncs(base+1))
		does(t, "that began a file, back to the one ahead", torn(t, one, tears(text(40), k)), appends("abc"),
			removes(base+1), lays(base, record("abc")), syncs(base))
		does(t, "that began the first file", torn(t, nil, tears(text(40), k)), appends("abc"),
			removes(base), lays(base, part(1, "abc")), syncs(base))
		does(t, "two of them", torn(t, one, tears("other", 3), tears(text(40), k)), appends("abc"),
			removes(base+1), lays(base, record("abc")), syncs(base))
		does(t, "two of them, the other way", torn(t, one, tears(text(40), k), tears("other", 3)), appends("abc"),
			cuts(base, 30), lays(base, record("abc")), syncs(base))
	}
}

// TestWhatATearLeftIsTakenAwayOnce: the second Append behind it has nothing to take away.
func TestWhatATearLeftIsTakenAwayOnce(t *testing.T) {
	for _, k := range []int{0, 5} {
		for _, p := range []string{"x", text(40)} {
			l, d := filled(t, 64, "one")
			l.Tear([]byte(p), k)
			adds(t, l, "two")
			ops := d.Ops()
			adds(t, l, "3")
			same(t, "operations", d.Ops(), ops+2)
			same(t, "the disk", shown(d), shown(diskOf(part(1, "one", "two", "3"))))
			same(t, "opened anew", told(opened(t, d, 64)), told(l))
		}
	}
}

func TestWhatTearDoes(t *testing.T) {
	for k := range 40 {
		does(t, "the first", func() (*Log, *disk.Disk) { return filled(t, 64) }, tears("abc", k),
			lays(base, part(1, "abc")[:k%30]))
		does(t, "behind another", func() (*Log, *disk.Disk) { return filled(t, 64, "one") }, tears("abc", k),
			lays(base, record("abc")[:k%11]))
		does(t, "into a new file", func() (*Log, *disk.Disk) { return filled(t, 64, text(40)) }, tears("", k),
			lays(base+1, part(2, "")[:k%27]))
		does(t, "of nothing", func() (*Log, *disk.Disk) { return filled(t, 64, "one") }, tears("", k),
			lays(base, record("")[:k%8]))
		does(t, "upon another", torn(t, []string{"one"}, tears("other", 9)), tears("abc", k),
			cuts(base, 30), lays(base, record("abc")[:k%11]))
		does(t, "upon nothing", torn(t, []string{"one"}, tears("other", 13)), tears("abc", k),
			cuts(base, 30), lays(base, record("abc")[:k%11]))
		does(t, "upon one that began a file", torn(t, []string{"one"}, tears(text(40), 30)), tears(text(50), k),
			removes(base+1), lays(base+1, part(2, text(50))[:k%77]))
		does(t, "upon the first file", torn(t, nil, tears(text(40), 0)), tears("", k),
			removes(base), lays(base, part(1, "")[:k%27]))
		does(t, "in another file", torn(t, []string{"one"}, tears(text(40), 30)), tears("abc", k),
			removes(base+1), lays(base, record("abc")[:k%11]))
	}
	for _, k := range []int{1 << 20, 1<<31 - 1, math.MaxInt - 1, math.MaxInt} {
		does(t, "far beyond", func() (*Log, *disk.Disk) { return filled(t, 64, "one") }, tears("abc", k),
			lays(base, record("abc")[:k%11]))
	}
	behindHead := func() (*Log, *disk.Disk) {
		d := diskOf(part(3, "a"), part(4))
		return opened(t, d, 64), d
	}
	does(t, "behind a head alone", behindHead, tears(text(90), 50), lays(base+1, record(text(90))[:50]))
}

// TestTearOfTheGreatest: the first bytes of a long one, and those of one that is as long as its head says but for a byte.
func TestTearOfTheGreatest(t *testing.T) {
	great := text(api.MaxRecord)
	n := 19 + 8 + api.MaxRecord
	for _, k := range []int{0, n - 1, n, n + 1} {
		does(t, "the greatest", func() (*Log, *disk.Disk) { return filled(t, 64) }, tears(great, k),
			lays(base, part(1, great)[:k%n]))
	}
}

// TestRefusedBehindATear: what it left stays, until an entry is written.
func TestRefusedBehindATear(t *testing.T) {
	l, d := full(t)
	l.Tear([]byte("abc"), 5)
	refuses(t, "no file", l, d, api.ErrFull, appends(text(11)))
	refuses(t, "no file, torn", l, d, api.ErrFull, tears(text(11), 3))
	refuses(t, "too long", l, d, api.ErrArg, appends(text(api.MaxRecord+1)))
	refuses(t, "below 0", l, d, api.ErrArg, tears("", -1))
	same(t, "what it left", d.Len(base+api.MaxSegs-1), 46+5)
	adds(t, l, text(10))
	same(t, "what is there", d.Len(base+api.MaxSegs-1), 64)
	same(t, "opened anew", told(opened(t, d, 64)), tells(1, 1, text(19), text(10)))
}

// TestATearTakesNoRoom: where an entry goes hangs on the entries alone.
func TestATearTakesNoRoom(t *testing.T) {
	l, d := filled(t, 64, "one")
	l.Tear([]byte(text(26)), 33)
	adds(t, l, text(26))
	same(t, "full to the byte", shown(d), shown(diskOf(part(1, "one", text(26)))))
	// Nor is the file's number used up that a Tear began.
	l.Tear([]byte("two"), 20)
	l.Tear([]byte("two"), 25)
	adds(t, l, "two")
	same(t, "the next file", shown(d), shown(diskOf(part(1, "one", text(26)), part(3, "two"))))
}

func TestTrim(t *testing.T) {
	// The numbers: 1 2, 3, 4 5 6, 7.
	entries := []string{text(18), text(11), text(37), "4", "5", "6", text(30)}
	before := func() (*Log, *disk.Disk) { return filled(t, 64, entries...) }
	l, _ := before()
	same(t, "segments", fmt.Sprint(l.segs[0].last(), l.segs[1].last(), l.segs[2].last(), l.Segments()), "2 3 6 4")
	for _, x := range []struct {
		lsn  int64
		gone int
		low  int64
	}{
		{math.MinInt64, 0, 1}, {-1, 0, 1}, {0, 0, 1}, {1, 0, 1}, {2, 1, 3}, {3, 2, 4}, {4, 2, 4}, {5, 2, 4}, {6, 3, 7},
		{7, 3, 7}, {8, 3, 7}, {api.MaxLsn, 3, 7}, {math.MaxInt64, 3, 7},
	} {
		what := fmt.Sprint("Trim ", x.lsn)
		l, d := before()
		same(t, what, l.Trim(x.lsn), api.OK)
		same(t, what, told(l), tells(x.low, 4-x.gone, entries[x.low-1:]...))
		same(t, what+": opened anew", told(opened(t, d, 64)), told(l))
		ops := d.Ops()
		same(t, what+" twice", l.Trim(x.lsn), api.OK)
		same(t, what+" twice: operations", d.Ops(), ops)
		adds(t, l, "8")
		same(t, what+": opened anew, behind an entry", told(opened(t, d, 64)), told(l))
		trimPowerGoes(t, what, before, x.lsn, x.gone)
	}
}

// trimPowerGoes asks that Trim removes so many files one by one, from the first on; where power goes, those ahead are gone.
func trimPowerGoes(t *testing.T, what string, before func() (*Log, *disk.Disk), lsn int64, gone int) {
	t.Helper()
	for n := 1; n <= gone+1; n++ {
		l, d := before()
		_, hand := before()
		d.Arm(n)
		hand.Arm(n)
		var ops []operation
		for i := range gone {
			ops = append(ops, removes(base+i))
		}
		e := byHand(hand, ops)
		same(t, what+": the answer", l.Trim(lsn), e)
		same(t, what+": the disk", state(d), state(hand))
		same(t, what+": segments", l.Segments(), 4-min(n-1, gone))
		now := told(l)
		d.Crash()
		same(t, what+": opened anew", told(opened(t, d, 64)), now)
	}
}

func TestTrimOfLittle(t *testing.T) {
	for _, d := range []*disk.Disk{disk.New(), diskOf(part(5)), diskOf(part(5, "a", "b"))} {
		l := opened(t, d, 64)
		for _, lsn := range []int64{math.MinInt64, 0, 4, 5, 6, 7, math.MaxInt64} {
			refuses(t, "never the last one", l, d, api.OK, trims(lsn))
		}
	}
}

// TestTrimBehindATear: the file that it began is no segment, so that the one ahead of it is the last one.
func TestTrimBehindATear(t *testing.T) {
	for _, k := range []int{0, 10, 19, 30} {
		l, d := filled(t, 64, text(40), text(40))
		l.Tear([]byte(text(40)), k)
		same(t, "Trim", l.Trim(9), api.OK)
		same(t, "the one ahead stays", told(l), tells(2, 1, text(40)))
		same(t, "its files", fmt.Sprint(d.Files()), fmt.Sprint([]int{base + 1, base + 2}))
		for _, keep := range []int{0, 1000 * (k + 1), k} {
			x := disk.New()
			for _, f := range d.Files() {
				b, _ := d.Read(f)
				x.Append(f, b[:d.Synced(f)])
				x.Sync(f)
				x.Append(f, b[d.Synced(f):])
			}
			x.Crash(0, keep)
			again := opened(t, x, 64)
			same(t, "behind a crash", again.Head(), 2)
			adds(t, again, "3")
		}
		adds(t, l, "3")
		same(t, "goes on", told(l), tells(2, 2, text(40), "3"))
	}
}

func TestOneEntryMoreBehindATrim(t *testing.T) {
	l, d := filled(t, 64, text(40), text(40), text(40))
	l.Trim(3)
	adds(t, l, "four", text(40))
	same(t, "files go on", fmt.Sprint(d.Files()), fmt.Sprint([]int{base + 2, base + 3, base + 4}))
	l.Trim(4)
	same(t, "trimmed again", told(l), tells(5, 1, text(40)))
	same(t, "opened anew", told(opened(t, d, 64)), told(l))
}

// TestOpenedAnewWithAnotherSize: the size is of those segments alone that are written from then on.
func TestOpenedAnewWithAnotherSize(t *testing.T) {
	_, d := filled(t, 100, text(40), text(20))
	l := opened(t, d, 64)
	same(t, "as it was", told(l), tells(1, 1, text(40), text(20)))
	adds(t, l, "")
	same(t, "a new one", l.Segments(), 2)
	l = opened(t, d, 65536)
	adds(t, l, text(60000))
	same(t, "into the last one", l.Segments(), 2)
}

func TestHandedInIsNotChangedAndNotKept(t *testing.T) {
	room := []byte("abcdefgh")
	kept := slices.Clone(room)
	l, d := filled(t, 64)
	l.Append(room[:3])
	l.Append(room[3:5])
	l.Tear(room[:2], 9)
	l.Append(room[:0])
	l.Append(nil)
	if !bytes.Equal(room, kept) {
		t.Errorf("what was handed in is now %q", room)
	}
	clear(room)
	same(t, "written into what was handed in", told(l), tells(1, 1, "abc", "de", "", ""))
	same(t, "opened anew", told(opened(t, d, 64)), told(l))
}

func TestHandedOutIsNewMemory(t *testing.T) {
	made, d := filled(t, 64, "abc", "de", "", text(40), "fgh")
	for _, l := range []*Log{made, opened(t, d, 64)} {
		was := told(l)
		for lsn := range int64(5) {
			p, _ := l.Read(lsn + 1)
			q, _ := l.Read(lsn + 1)
			kept := slices.Clone(q)
			clear(p[:cap(p)])
			if !bytes.Equal(q, kept) {
				t.Errorf("Read(%d): two answers share memory", lsn+1)
			}
		}
		same(t, "written into what was read", told(l), was)
	}
	same(t, "the disk", shown(d), shown(diskOf(part(1, "abc", "de", ""), part(4, text(40)), part(5, "fgh"))))
}

// TestReadOutlastsTrim: what was handed out does not hang on the log.
func TestReadOutlastsTrim(t *testing.T) {
	l, _ := filled(t, 64, text(40), "b")
	p, _ := l.Read(1)
	l.Trim(1)
	adds(t, l, "cc", text(40))
	same(t, "what was read", string(p), text(40))
}
