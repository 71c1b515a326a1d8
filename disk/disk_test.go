package disk

import (
	"fmt"
	"math"
	"slices"
	"testing"

	"qanat/api"
)

// told is all that a disk tells of one file.
func told(d *Disk, f int) string {
	b, ok := d.Read(f)
	return fmt.Sprintf("%q %v %d %d", b, ok, d.Len(f), d.Synced(f))
}

// holds asks that file f has those bytes, and that the first of them are safe.
func holds(t *testing.T, what string, d *Disk, f int, want string, safe int) {
	t.Helper()
	if got, want := told(d, f), fmt.Sprintf("%q true %d %d", want, len(want), safe); got != want {
		t.Errorf("%s: file %d: got %s, want %s", what, f, got, want)
	}
}

// lacks asks that there is no file f.
func lacks(t *testing.T, what string, d *Disk, f int) {
	t.Helper()
	if got := told(d, f); got != `"" false -1 -1` {
		t.Errorf("%s: file %d: got %s, want none", what, f, got)
	}
	if slices.Contains(d.Files(), f) {
		t.Errorf("%s: file %d is among %v", what, f, d.Files())
	}
}

// answers asks what the calls answered, in their order.
func answers(t *testing.T, what string, want api.Errno, got ...api.Errno) {
	t.Helper()
	for i, e := range got {
		if e != want {
			t.Errorf("%s: call %d of %d: got %d, want %d", what, i, len(got), e, want)
		}
	}
}

// stands asks how many operations there were, and whether power is off.
func stands(t *testing.T, what string, d *Disk, ops int, down bool) {
	t.Helper()
	if d.Ops() != ops || d.Down() != down {
		t.Errorf("%s: got %d operations, down %v, want %d, %v", what, d.Ops(), d.Down(), ops, down)
	}
}

// filesAre asks which files there are.
func filesAre(t *testing.T, what string, d *Disk, want ...int) {
	t.Helper()
	if got := d.Files(); !slices.Equal(got, want) {
		t.Errorf("%s: got files %v, want %v", what, got, want)
	}
}

// with is a disk with one file, of which the first bytes are safe.
func with(f int, safe, loose string) *Disk {
	d := New()
	d.Append(f, []byte(safe))
	d.Sync(f)
	d.Append(f, []byte(loose))
	return d
}

func TestExample(t *testing.T) {
	d := New()
	answers(t, "all", api.OK, d.Append(0, []byte("abc")), d.Sync(0), d.Append(0, []byte("de")))
	d.Crash(1)
	holds(t, "behind the crash", d, 0, "abcd", 4)
}

func TestNew(t *testing.T) {
	d := New()
	stands(t, "a new disk", d, 0, false)
	filesAre(t, "a new disk", d)
	for _, f := range []int{math.MinInt, -1, 0, 1, api.MaxFile - 1, api.MaxFile, math.MaxInt} {
		lacks(t, "a new disk", d, f)
	}
}

func TestAppend(t *testing.T) {
	d := New()
	answers(t, "a file begins", api.OK, d.Append(5, nil), d.Append(2, []byte{}), d.Append(9, []byte("x")))
	holds(t, "begun", d, 5, "", 0)
	holds(t, "begun", d, 2, "", 0)
	holds(t, "begun", d, 9, "x", 0)
	filesAre(t, "begun", d, 2, 5, 9)
	answers(t, "more", api.OK, d.Append(5, []byte("ab")), d.Append(9, nil), d.Append(5, []byte("\x00c")))
	holds(t, "more", d, 5, "ab\x00c", 0)
	holds(t, "nothing more", d, 9, "x", 0)
	holds(t, "another file", d, 2, "", 0)
	stands(t, "all of them", d, 6, false)
}

func TestSync(t *testing.T) {
	d := with(1, "abc", "de")
	d.Append(2, []byte("xy"))
	holds(t, "what comes behind is not safe", d, 1, "abcde", 3)
	answers(t, "safe, and once more", api.OK, d.Sync(1), d.Sync(1))
	holds(t, "safe", d, 1, "abcde", 5)
	holds(t, "another file", d, 2, "xy", 0)
	stands(t, "all of them", d, 6, false)
	d.Append(3, nil)
	answers(t, "nothing", api.OK, d.Sync(3))
	holds(t, "nothing", d, 3, "", 0)
}

func TestCut(t *testing.T) {
	for n := range 6 {
		d := with(1, "abc", "de")
		d.Append(2, []byte("xyz"))
		answers(t, "a cut", api.OK, d.Cut(1, n))
		holds(t, "a cut", d, 1, "abcde"[:n], min(n, 3))
		holds(t, "another file", d, 2, "xyz", 0)
		stands(t, "a cut", d, 5, false)
		d.Append(1, []byte("FG"))
		holds(t, "more behind a cut", d, 1, "abcde"[:n]+"FG", min(n, 3))
		d.Crash()
		holds(t, "a crash behind a cut", d, 1, "abcde"[:min(n, 3)], min(n, 3))
	}
	for _, n := range []int{math.MinInt, -6, -1, 6, 7, math.MaxInt} {
		d := with(1, "abc", "de")
		answers(t, "a cut that is none", api.ErrArg, d.Cut(1, n))
		holds(t, "a cut that is none", d, 1, "abcde", 3)
		stands(t, "a cut that is none", d, 3, false)
	}
}

func TestCutOfNothing(t *testing.T) {
	d := with(1, "", "")
	answers(t, "at 0", api.OK, d.Cut(1, 0))
	answers(t, "elsewhere", api.ErrArg, d.Cut(1, 1), d.Cut(1, -1))
	holds(t, "nothing", d, 1, "", 0)
	// What was cut off is gone: to cut at where it ended is refused.
	d = with(1, "abc", "")
	d.Cut(1, 1)
	answers(t, "behind the end", api.ErrArg, d.Cut(1, 2), d.Cut(1, 3))
	holds(t, "cut once", d, 1, "a", 1)
}

func TestRemove(t *testing.T) {
	d := with(1, "abc", "de")
	d.Append(2, []byte("xy"))
	answers(t, "removed", api.OK, d.Remove(1))
	lacks(t, "removed", d, 1)
	holds(t, "another file", d, 2, "xy", 0)
	filesAre(t, "removed", d, 2)
	answers(t, "removed twice", api.ErrNone, d.Remove(1), d.Sync(1), d.Cut(1, 0))
	stands(t, "removed twice", d, 5, false)
	d.Crash(9, 9)
	lacks(t, "a crash brings it not back", d, 1)
}

func TestRemovedAndBegunAnew(t *testing.T) {
	d := with(1, "abc", "de")
	d.Remove(1)
	answers(t, "begun anew", api.OK, d.Append(1, []byte("xyzuvw")))
	holds(t, "begun anew", d, 1, "xyzuvw", 0)
	d.Crash(2)
	holds(t, "behind a crash", d, 1, "xy", 2)
	d.Remove(1)
	d.Append(1, nil)
	holds(t, "begun anew with nothing", d, 1, "", 0)
}

// four is the four calls, on file f; Cut is asked for at n.
func four(d *Disk, f, n int) []func() api.Errno {
	return []func() api.Errno{
		func() api.Errno { return d.Append(f, []byte("new")) },
		func() api.Errno { return d.Sync(f) },
		func() api.Errno { return d.Cut(f, n) },
		func() api.Errno { return d.Remove(f) },
	}
}

func TestNumbers(t *testing.T) {
	for _, f := range []int{0, 1, api.MaxFile - 2, api.MaxFile - 1} {
		for i, do := range four(with(f, "abc", "de"), f, 4) {
			answers(t, fmt.Sprint("file ", f, ", call ", i), api.OK, do())
		}
	}
	for _, f := range []int{math.MinInt, -api.MaxFile, -1, api.MaxFile, api.MaxFile + 1, math.MaxInt} {
		d := with(0, "abc", "de")
		for i, do := range slices.Concat(four(d, f, 0), four(d, f, -1)) {
			answers(t, fmt.Sprint("no file's number ", f, ", call ", i), api.ErrArg, do())
		}
		lacks(t, "no file's number", d, f)
		filesAre(t, "no file's number", d, 0)
		holds(t, "another file", d, 0, "abcde", 3)
		stands(t, "no file's number", d, 3, false)
	}
}

func TestNoSuchFile(t *testing.T) {
	for _, f := range []int{0, 6, 8, api.MaxFile - 1} {
		d := with(7, "abc", "de")
		answers(t, "no such file", api.ErrNone, d.Sync(f), d.Remove(f))
		for _, n := range []int{math.MinInt, -1, 0, 1, 5, math.MaxInt} {
			answers(t, "no such file, whatever n is", api.ErrNone, d.Cut(f, n))
		}
		lacks(t, "no such file", d, f)
		filesAre(t, "no such file", d, 7)
		stands(t, "no such file", d, 3, false)
		answers(t, "Append begins it", api.OK, d.Append(f, []byte("xy")))
		holds(t, "Append begins it", d, f, "xy", 0)
		holds(t, "another file", d, 7, "abcde", 3)
	}
}

func TestPowerOff(t *testing.T) {
	d := with(1, "abc", "de")
	d.Arm(1)
	answers(t, "power goes", api.ErrDown, d.Sync(1))
	for _, f := range []int{-1, 0, 1, api.MaxFile} {
		for _, n := range []int{-1, 0, 2, 9} {
			for i, do := range four(d, f, n) {
				answers(t, fmt.Sprint("power off, file ", f, ", call ", i), api.ErrDown, do())
			}
		}
	}
	stands(t, "power off", d, 4, true)
	holds(t, "as it was", d, 1, "abcde", 3)
	filesAre(t, "as it was", d, 1)
	lacks(t, "asked with power off", d, 0)
	lacks(t, "asked with power off", d, api.MaxFile)
	d.Arm(0)
	answers(t, "Arm brings no power", api.ErrDown, d.Append(1, nil))
	d.Arm(3)
	answers(t, "Arm brings no power", api.ErrDown, d.Append(1, nil))
	stands(t, "power off", d, 4, true)
}

func TestPowerGoesAtEachOfTheFour(t *testing.T) {
	for i := range 4 {
		d := with(1, "abc", "de")
		d.Arm(1)
		answers(t, fmt.Sprint("call ", i), api.ErrDown, four(d, 1, 2)[i]())
		stands(t, fmt.Sprint("call ", i), d, 4, true)
		want := "abcde"
		if i == 0 {
			want += "new"
		}
		holds(t, fmt.Sprint("call ", i), d, 1, want, 3)
		filesAre(t, fmt.Sprint("call ", i), d, 1)
		d.Crash(4)
		stands(t, fmt.Sprint("a crash behind call ", i), d, 4, false)
		holds(t, fmt.Sprint("a crash behind call ", i), d, 1, want[:3+4%(len(want)-3+1)], 3+4%(len(want)-3+1))
		answers(t, fmt.Sprint("with power again, call ", i), api.OK, four(d, 1, 2)[i]())
		stands(t, fmt.Sprint("with power again, call ", i), d, 5, false)
	}
}

func TestPowerGoesWhereAFileBegins(t *testing.T) {
	d := with(5, "abc", "")
	d.Arm(1)
	answers(t, "begun", api.ErrDown, d.Append(2, []byte("xyz")))
	holds(t, "begun", d, 2, "xyz", 0)
	filesAre(t, "begun", d, 2, 5)
	d.Crash(2)
	holds(t, "behind the crash", d, 2, "xy", 2)
	d.Arm(1)
	answers(t, "begun with nothing", api.ErrDown, d.Append(9, nil))
	d.Crash()
	holds(t, "what began is there, with no bytes", d, 9, "", 0)
	filesAre(t, "behind the crash", d, 2, 5, 9)
}

func TestArmLater(t *testing.T) {
	for n := 1; n <= 8; n++ {
		d := with(1, "abc", "de")
		d.Arm(n)
		for i := 1; i < n; i++ {
			answers(t, "ahead of it", api.OK, d.Append(1, []byte("x")))
			stands(t, "ahead of it", d, 3+i, false)
		}
		answers(t, "at it, and behind it", api.ErrDown, d.Append(1, []byte("y")), d.Append(1, []byte("z")), d.Sync(1))
		stands(t, "at it, and behind it", d, 3+n, true)
		if b, _ := d.Read(1); string(b) != "abcde"+"xxxxxxxx"[:n-1]+"y" {
			t.Errorf("armed at %d: got %q", n, b)
		}
	}
}

func TestArmAtNone(t *testing.T) {
	for _, n := range []int{0, -1, -2, math.MinInt, math.MaxInt} {
		d := New()
		d.Arm(n)
		for range 100 {
			answers(t, "at none", api.OK, d.Append(1, nil))
		}
		stands(t, "at none", d, 100, false)
		d.Arm(1)
		d.Arm(n)
		answers(t, "no more", api.OK, d.Sync(1), d.Sync(1), d.Sync(1))
		stands(t, "no more", d, 103, false)
	}
}

func TestArmedAnew(t *testing.T) {
	d := with(1, "abc", "de")
	d.Arm(2)
	answers(t, "one of two", api.OK, d.Append(1, nil))
	d.Arm(2)
	answers(t, "counted from the second Arm on", api.OK, d.Append(1, nil))
	answers(t, "the second", api.ErrDown, d.Append(1, nil))
	d.Crash()
	d.Arm(5)
	d.Arm(1)
	answers(t, "armed nearer", api.ErrDown, d.Append(1, nil))
	d.Crash()
	d.Arm(1)
	d.Arm(3)
	answers(t, "armed farther", api.OK, d.Append(1, nil), d.Append(1, nil))
	answers(t, "armed farther", api.ErrDown, d.Append(1, nil))
	stands(t, "all of them", d, 3+3+1+3, true)
}

// TestRefusedIsNoOperation: neither Ops nor what is armed counts it.
func TestRefusedIsNoOperation(t *testing.T) {
	d := with(1, "abc", "de")
	d.Arm(2)
	for range 5 {
		answers(t, "no number", api.ErrArg, d.Append(-1, nil), d.Sync(api.MaxFile), d.Cut(-1, 0), d.Remove(api.MaxFile))
		answers(t, "no cut", api.ErrArg, d.Cut(1, -1), d.Cut(1, 6))
		answers(t, "no file", api.ErrNone, d.Sync(2), d.Cut(2, 0), d.Remove(2))
	}
	stands(t, "refused", d, 3, false)
	answers(t, "the first", api.OK, d.Sync(1))
	answers(t, "refused", api.ErrNone, d.Remove(2))
	answers(t, "the second", api.ErrDown, d.Sync(1))
	answers(t, "power off", api.ErrDown, d.Sync(1), d.Append(2, nil))
	stands(t, "all of them", d, 5, true)
}

func TestAskingIsNoOperation(t *testing.T) {
	d := with(1, "abc", "de")
	d.Arm(1)
	for range 3 {
		told(d, 1)
		told(d, 2)
		d.Files()
		stands(t, "asked", d, 3, false)
	}
	answers(t, "the first", api.ErrDown, d.Sync(1))
}

func TestCrashKeeps(t *testing.T) {
	for k, want := range map[int]string{
		math.MinInt: "", -4: "", -3: "", -1: "",
		0: "", 1: "d", 2: "de", 3: "def",
		4: "", 5: "d", 7: "def", 8: "",
		math.MaxInt: "def"[:math.MaxInt%4],
	} {
		for _, off := range []bool{false, true} {
			d := with(1, "abc", "def")
			if off {
				d.Arm(1)
				d.Remove(1)
			}
			ops := d.Ops()
			d.Crash(k)
			holds(t, fmt.Sprint("keep ", k), d, 1, "abc"+want, 3+len(want))
			stands(t, fmt.Sprint("keep ", k), d, ops, false)
		}
		d := with(1, "abc", "")
		d.Crash(k)
		holds(t, fmt.Sprint("all is safe, keep ", k), d, 1, "abc", 3)
		d = New()
		d.Append(1, []byte("def"))
		d.Crash(k)
		holds(t, fmt.Sprint("nothing is safe, keep ", k), d, 1, want, len(want))
	}
}

// several is a disk with files that were begun in another order than that of their numbers.
func several() *Disk {
	d := New()
	for _, f := range []int{300, 4, 7000, 0, 12} {
		d.Append(f, []byte("ab"))
		d.Sync(f)
		d.Append(f, []byte("cdef"))
	}
	return d
}

func TestCrashGoesByPlaces(t *testing.T) {
	names := []int{0, 4, 12, 300, 7000}
	for _, keep := range [][]int{nil, {}, {1}, {1, 2}, {3, -1, 4}, {0, 1, 2, 3}, {4, 3, 2, 1, 0}, {5, 6, 7, 8, 9}, {1, 2, 3, 4, 3, 2, 1}, {-1, -2, -3, -4, -5, 3}} {
		d := several()
		filesAre(t, "ahead of the crash", d, names...)
		d.Crash(keep...)
		filesAre(t, "behind the crash", d, names...)
		for i, f := range names {
			n := 0
			if i < len(keep) && keep[i] > 0 {
				n = keep[i] % 5
			}
			holds(t, fmt.Sprint("keep ", keep), d, f, "abcdef"[:2+n], 2+n)
		}
	}
}

// TestCrashCountsFilesThatAllIsSafeOf: a file has its place even where nothing of it can be lost.
func TestCrashCountsFilesThatAllIsSafeOf(t *testing.T) {
	d := several()
	d.Sync(4)
	d.Cut(0, 0)
	d.Remove(12)
	d.Crash(3, 1, 2)
	holds(t, "cut", d, 0, "", 0)
	holds(t, "safe", d, 4, "abcdef", 6)
	holds(t, "the third", d, 300, "abcd", 4)
	holds(t, "the fourth", d, 7000, "ab", 2)
}

func TestCrashTakesWhatIsArmedAway(t *testing.T) {
	d := with(1, "abc", "de")
	d.Arm(1)
	d.Crash(2)
	answers(t, "behind the crash", api.OK, d.Sync(1), d.Sync(1))
	d.Arm(1)
	d.Sync(1)
	d.Arm(1)
	d.Crash()
	answers(t, "armed with power off", api.OK, d.Sync(1), d.Sync(1))
	stands(t, "all of them", d, 8, false)
	d.Arm(1)
	answers(t, "armed behind the crash", api.ErrDown, d.Append(1, nil))
}

func TestCrashTwice(t *testing.T) {
	d := with(1, "abc", "def")
	d.Crash(2)
	d.Crash()
	holds(t, "what was left is safe", d, 1, "abcde", 5)
	d.Append(1, []byte("xyz"))
	d.Crash(1)
	holds(t, "more was lost", d, 1, "abcdex", 6)
}

// TestSafeBytesStay: whatever the numbers are, what is safe is there behind the crash.
func TestSafeBytesStay(t *testing.T) {
	for safe := range 5 {
		for loose := range 5 {
			for k := -2; k < 12; k++ {
				d := with(1, "abcd"[:safe], "vwxy"[:loose])
				d.Crash(k)
				b, ok := d.Read(1)
				whole := "abcd"[:safe] + "vwxy"[:loose]
				if !ok || len(b) < safe || len(b) > len(whole) || string(b) != whole[:len(b)] {
					t.Errorf("%d safe of %d, keep %d: got %q", safe, safe+loose, k, b)
				}
			}
		}
	}
}

func TestHandedInIsNotKept(t *testing.T) {
	d := New()
	room := []byte("abcdefgh")
	d.Append(1, room[:3])
	d.Append(1, room[3:5])
	if string(room) != "abcdefgh" {
		t.Errorf("what was handed in is now %q", room)
	}
	clear(room)
	holds(t, "written into what was handed in", d, 1, "abcde", 0)
	d.Cut(1, 1)
	d.Append(1, []byte("XYZ"))
	if string(room) != "\x00\x00\x00\x00\x00\x00\x00\x00" {
		t.Errorf("the file writes into what was handed in: %q", room)
	}
	keep := []int{1, 2, 3, 4}
	d.Crash(keep[:2]...)
	if !slices.Equal(keep, []int{1, 2, 3, 4}) {
		t.Errorf("the numbers of a crash are now %v", keep)
	}
}

// TestCrashDoesNotLookBehindTheEnd: numbers in the room behind keep are none of it.
func TestCrashDoesNotLookBehindTheEnd(t *testing.T) {
	d := several()
	keep := []int{1, 2, 3, 4, 4}
	d.Crash(keep[:1]...)
	holds(t, "the first", d, 0, "abc", 3)
	for _, f := range []int{4, 12, 300, 7000} {
		holds(t, "the others", d, f, "ab", 2)
	}
}

func TestHandedOutIsNewMemory(t *testing.T) {
	d := with(1, "abc", "de")
	d.Append(2, []byte("xy"))
	b, _ := d.Read(1)
	c, _ := d.Read(1)
	clear(b[:cap(b)])
	holds(t, "written into what was read", d, 1, "abcde", 3)
	if string(c) != "abcde" {
		t.Errorf("what was read twice shares memory: %q", c)
	}
	d.Cut(1, 0)
	d.Append(1, []byte("XYZUVW"))
	if string(c) != "abcde" {
		t.Errorf("what was read hangs on the file: %q", c)
	}
	l := d.Files()
	clear(l[:cap(l)])
	filesAre(t, "written into the numbers", d, 1, 2)
}

// TestReadIsNewMemoryBehindACut: what is cut off is room of the file, and still not that of what is handed out.
func TestReadIsNewMemoryBehindACut(t *testing.T) {
	d := with(1, "abcde", "")
	d.Cut(1, 2)
	b, _ := d.Read(1)
	b = append(b, "ZZZ"...)
	d.Append(1, []byte("fgh"))
	holds(t, "added to what was read", d, 1, "abfgh", 2)
	if string(b) != "abZZZ" {
		t.Errorf("the file writes into what was read: %q", b)
	}
}

func TestTwoDisks(t *testing.T) {
	d, o := with(1, "abc", "de"), New()
	d.Arm(1)
	answers(t, "another disk", api.OK, o.Append(1, []byte("x")))
	answers(t, "this disk", api.ErrDown, d.Sync(1))
	stands(t, "another disk", o, 1, false)
	holds(t, "another disk", o, 1, "x", 0)
	d.Crash()
	holds(t, "another disk", o, 1, "x", 0)
}

func TestAllFiles(t *testing.T) {
	d := New()
	for f := api.MaxFile - 1; f >= 0; f-- {
		answers(t, "all files", api.OK, d.Append(f, []byte{byte(f), byte(f >> 8)}))
	}
	l := d.Files()
	keep := make([]int, api.MaxFile)
	for f := range keep {
		keep[f] = f % 3
		if l[f] != f {
			t.Fatalf("place %d has file %d", f, l[f])
		}
	}
	d.Crash(keep...)
	for f := range keep {
		holds(t, "all files", d, f, string([]byte{byte(f), byte(f >> 8)}[:f%3]), f%3)
	}
}

// plain is the chapter word by word: each byte knows by itself whether it is safe.
type plain struct {
	files map[int][]plainByte
	arm   int // below 1 is none
	off   bool
	ops   int
}

type plainByte struct {
	c    byte
	safe bool
}

// operate does one of the four; n is where Cut cuts, b what Append adds.
func (p *plain) operate(which, f, n int, b []byte) api.Errno {
	file, there := p.files[f]
	switch {
	case p.off:
		return api.ErrDown
	case f < 0 || f > api.MaxFile-1:
		return api.ErrArg
	case which != 0 && !there:
		return api.ErrNone
	case which == 2 && (n < 0 || n > len(file)):
		return api.ErrArg
	}
	p.ops++
	if p.arm > 0 {
		p.arm--
		p.off = p.arm == 0
	}
	if p.off && which != 0 {
		return api.ErrDown
	}
	switch which {
	case 0:
		file = slices.Clone(file)
		for _, c := range b {
			file = append(file, plainByte{c: c})
		}
		p.files[f] = file
	case 1:
		for i := range file {
			file[i].safe = true
		}
	case 2:
		p.files[f] = slices.Clone(file[:n])
	case 3:
		delete(p.files, f)
	}
	if p.off {
		return api.ErrDown
	}
	return api.OK
}

func (p *plain) crash(keep []int) {
	place := 0
	for f := range api.MaxFile {
		file, there := p.files[f]
		if !there {
			continue
		}
		var left, loose []plainByte
		for _, x := range file {
			if x.safe {
				left = append(left, x)
			} else {
				loose = append(loose, x)
			}
		}
		if place < len(keep) && keep[place] >= 0 {
			for _, x := range loose[:keep[place]%(len(loose)+1)] {
				left = append(left, plainByte{x.c, true})
			}
		}
		p.files[f] = left
		place++
	}
	p.off, p.arm = false, 0
}

// alike holds all that a disk tells against the plain one.
func alike(t *testing.T, d *Disk, p *plain) {
	t.Helper()
	if d.Ops() != p.ops || d.Down() != p.off {
		t.Fatalf("got %d operations, down %v, want %d, %v", d.Ops(), d.Down(), p.ops, p.off)
	}
	if l := d.Files(); len(l) != len(p.files) || !slices.IsSorted(l) {
		t.Fatalf("got files %v, want %d rising", l, len(p.files))
	}
	for f, file := range p.files {
		var b []byte
		safe := 0
		for i, x := range file {
			b = append(b, x.c)
			if x.safe {
				safe = i + 1
			}
		}
		if got, want := told(d, f), fmt.Sprintf("%q true %d %d", b, len(b), safe); got != want {
			t.Fatalf("file %d: got %s, want %s", f, got, want)
		}
	}
}

// step does one step on both, which four bytes name.
func step(t *testing.T, d *Disk, p *plain, b [4]byte) {
	t.Helper()
	f := []int{0, 1, 2, 77, api.MaxFile - 1, api.MaxFile, -1, 3}[b[1]%8]
	n := int(int8(b[2]))
	var got, want api.Errno
	switch "AAAAAASSSCCCRMMX"[b[0]%16] {
	case 'A':
		got, want = d.Append(f, b[2:]), p.operate(0, f, 0, b[2:])
	case 'S':
		got, want = d.Sync(f), p.operate(1, f, 0, nil)
	case 'C':
		got, want = d.Cut(f, n%24), p.operate(2, f, n%24, nil)
	case 'R':
		got, want = d.Remove(f), p.operate(3, f, 0, nil)
	case 'M':
		d.Arm(n % 20)
		p.arm = n % 20
	case 'X':
		keep := []int{n, int(int8(b[3])), n / 2, 1, math.MaxInt, n}[:b[1]%7]
		d.Crash(keep...)
		p.crash(keep)
	}
	if got != want {
		t.Fatalf("step % x, file %d: got %d, want %d", b, f, got, want)
	}
	alike(t, d, p)
}

// run moves a disk and the plain one step by step, and holds them against each other.
func run(t *testing.T, script []byte) {
	t.Helper()
	d, p := New(), &plain{files: map[int][]plainByte{}}
	for ; len(script) >= 4; script = script[4:] {
		step(t, d, p, [4]byte(script))
	}
}

// anyScript is steps that look like none in particular, the same for the same seed.
func anyScript(seed uint32, steps int) []byte {
	b := make([]byte, 4*steps)
	x := seed
	for i := range b {
		x = x*1664525 + 1013904223
		b[i] = byte(x >> 24)
	}
	return b
}

func TestAnyScript(t *testing.T) {
	for seed := range uint32(40) {
		run(t, anyScript(seed, 400))
	}
}

// FuzzDisk holds a disk against the chapter, word by word, on scripts of any kind.
func FuzzDisk(f *testing.F) {
	f.Add([]byte(nil))
	f.Add([]byte{0, 0, 'a', 'b', 6, 0, 0, 0, 0, 0, 'c', 'd', 15, 1, 1, 0})
	f.Add(anyScript(41, 60))
	f.Fuzz(run)
}
