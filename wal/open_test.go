package wal

import (
	"fmt"
	"math"
	"testing"

	"qanat/api"
	"qanat/disk"
)

// noLog asks that Open is refused, and does nothing.
func noLog(t *testing.T, what string, d *disk.Disk, at, size int, want api.Errno) {
	t.Helper()
	stood := state(d)
	if l, e := Open(d, at, size); l != nil || e != want {
		t.Errorf("%s: Open(%d, %d): got a log %v, %d, want %d", what, at, size, l != nil, e, want)
	}
	same(t, what+": the disk", state(d), stood)
}

func TestOpenOfWrongArguments(t *testing.T) {
	whole, none, off := diskOf(part(1, "a")), diskOf("", ""), disk.New()
	powerGoes(off)
	for _, d := range []*disk.Disk{disk.New(), whole, none, off} {
		for _, b := range []int{math.MinInt, -api.MaxSegs, -1, api.MaxFile - api.MaxSegs + 1, api.MaxFile, math.MaxInt} {
			noLog(t, "a wrong base", d, b, 64, api.ErrArg)
			noLog(t, "a wrong base and size", d, b, 63, api.ErrArg)
		}
		for _, n := range []int{math.MinInt, -64, -1, 0, 1, 63, 65537, math.MaxInt} {
			noLog(t, "a wrong size", d, 0, n, api.ErrArg)
			noLog(t, "a wrong size", d, base, n, api.ErrArg)
		}
	}
}

func TestOpenAtTheLimits(t *testing.T) {
	for _, b := range []int{0, 1, api.MaxFile - api.MaxSegs - 1, api.MaxFile - api.MaxSegs} {
		for _, n := range []int{64, 65, 65535, 65536} {
			d := disk.New()
			l, e := Open(d, b, n)
			if e != api.OK {
				t.Fatalf("Open(%d, %d): got %d", b, n, e)
			}
			adds(t, l, text(n-27), "")
			same(t, "its files", fmt.Sprint(d.Files(), d.Len(b), d.Len(b+1)), fmt.Sprint([]int{b, b + 1}, n, 27))
			again, e := Open(d, b, n)
			if e != api.OK {
				t.Fatalf("Open(%d, %d) anew: got %d", b, n, e)
			}
			same(t, "opened anew", told(again), told(l))
		}
	}
}

func TestOpenWithPowerOff(t *testing.T) {
	for what, d := range map[string]*disk.Disk{
		"no file":             disk.New(),
		"a log":               diskOf(part(1, "a"), part(2, "b")),
		"a torn log":          diskOf(part(1, "a"), part(2, "b")+"rubbish"),
		"files that are none": diskOf("", "", part(1)),
	} {
		powerGoes(d)
		noLog(t, what, d, base, 64, api.ErrDown)
	}
}

func TestOpenOverNoFile(t *testing.T) {
	d := disk.New()
	l := opened(t, d, 64)
	same(t, "a new log", told(l), tells(1, 0))
	same(t, "the disk", state(d), "0 operations, down false ")
	if _, e := l.Read(math.MaxInt64); e != api.ErrNone {
		t.Errorf("Read far above: got %d", e)
	}
}

func TestOpenOverWhatIsALog(t *testing.T) {
	for _, x := range []struct {
		what  string
		files []string
		want  string
	}{
		{"a head alone", []string{part(1)}, tells(1, 1)},
		{"a later head alone", []string{part(7)}, tells(7, 1)},
		{"the last head alone", []string{part(api.MaxLsn)}, tells(api.MaxLsn, 1)},
		{"one entry", []string{part(1, "a")}, tells(1, 1, "a")},
		{"one of no bytes", []string{part(1, "")}, tells(1, 1, "")},
		{"the last entry", []string{part(api.MaxLsn, "a")}, tells(api.MaxLsn, 1, "a")},
		{"the last two", []string{part(api.MaxLsn-1, "a"), part(api.MaxLsn, "b")}, tells(api.MaxLsn-1, 2, "a", "b")},
		{"the last head behind one", []string{part(api.MaxLsn-1, "a"), part(api.MaxLsn)}, tells(api.MaxLsn-1, 2, "a")},
		{"two, and a head", []string{part(5, "a", "b"), part(7)}, tells(5, 2, "a", "b")},
		{"three", []string{part(5, "a", "b"), part(7, ""), part(8, "c", "d", "e")}, tells(5, 3, "a", "b", "", "c", "d", "e")},
		{"more than size", []string{part(1, text(70), text(70)), part(3, text(900))}, tells(1, 2, text(70), text(70), text(900))},
		{"entries that are heads", []string{part(1, head(5)[8:], head(1)[8:]), part(3)}, tells(1, 2, head(5)[8:], head(1)[8:])},
	} {
		d := diskOf(x.files...)
		stood := state(d)
		same(t, x.what, told(opened(t, d, 64)), x.want)
		same(t, x.what+": nothing is done", state(d), stood)
	}
}

// TestOpenFromAnyFileOn: a log that was trimmed does not begin at base.
func TestOpenFromAnyFileOn(t *testing.T) {
	for _, at := range []int{0, 1, 77, api.MaxSegs - 2} {
		d := disk.New()
		lay(d, base+at+1, part(8, "b"))
		lay(d, base+at, part(7, "a"))
		l := opened(t, d, 64)
		same(t, "begun later", told(l), tells(7, 2, "a", "b"))
		adds(t, l, "c")
		same(t, "goes on there", d.Len(base+at+1), 19+9+9)
	}
}

func TestOpenOverFilesWithGaps(t *testing.T) {
	for _, l := range [][]int{{0, 2}, {0, api.MaxSegs - 1}, {1, 2, 4}, {1, 3, 4}, {5, 7, 9}} {
		d := disk.New()
		for i, f := range l {
			lay(d, base+f, part(int64(i+1), "a"))
		}
		noLog(t, fmt.Sprint("files ", l), d, base, 64, api.ErrForm)
	}
	d := diskOf(part(1, "a"))
	lay(d, base+2, "")
	noLog(t, "a last one that is none, behind a gap", d, base, 64, api.ErrForm)
}

func TestOpenOverWhatIsNoLog(t *testing.T) {
	for what, ahead := range map[string]string{
		"no bytes":                    "",
		"two bytes":                   "\x01\x02",
		"half a head":                 head(1)[:18],
		"a head of 0":                 part(0, "a"),
		"a head above MaxLsn":         part(api.MaxLsn+1, "a"),
		"a record that is no head":    record("a") + record("b"),
		"a byte ahead of it":          "\x00" + part(1, "a"),
		"no entry":                    part(1),
		"no entry, and half of one":   part(1, "abc")[:28],
		"a byte behind it":            part(1, "a") + "\x00",
		"half an entry behind it":     part(1, "a", "b")[:36],
		"an entry with a byte turned": part(1, "a") + record("b")[:8] + "c",
	} {
		for _, last := range []string{part(2, "b"), part(2), "", part(1, "b"), part(1)} {
			noLog(t, what+", the first", diskOf(ahead, last), base, 64, api.ErrForm)
			noLog(t, what+", the first of three", diskOf(ahead, part(2, "b"), part(3)), base, 64, api.ErrForm)
		}
	}
	for what, middle := range map[string]string{
		"no bytes":                "",
		"half a head":             head(2)[:18],
		"no entry":                part(2),
		"a byte behind it":        part(2, "b") + "\x00",
		"half an entry behind it": part(2, "b", "c")[:36],
	} {
		noLog(t, what+", the middle", diskOf(part(1, "a"), middle, part(3, "c")), base, 64, api.ErrForm)
		noLog(t, what+", the middle, no last", diskOf(part(1, "a"), middle, ""), base, 64, api.ErrForm)
	}
}

func TestOpenOverHeadsThatDoNotGoOn(t *testing.T) {
	for _, x := range []int64{1, 5, 6, 8, 9, api.MaxLsn} {
		for _, entries := range [][]string{nil, {"c"}} {
			noLog(t, fmt.Sprint("the last head ", x), diskOf(part(5, "a", "b"), part(x, entries...)), base, 64, api.ErrForm)
			noLog(t, fmt.Sprint("the last head torn behind ", x), diskOf(part(5, "a", "b"), part(x, entries...)+"rubbish"), base, 64, api.ErrForm)
			noLog(t, fmt.Sprint("the third head ", x), diskOf(part(5, "a"), part(6, "b"), part(x, entries...)), base, 64, api.ErrForm)
		}
		noLog(t, fmt.Sprint("the second head ", x), diskOf(part(5, "a", "b"), part(x, "c"), part(x+1, "d")), base, 64, api.ErrForm)
		noLog(t, fmt.Sprint("the second head, no last ", x), diskOf(part(5, "a", "b"), part(x, "c"), ""), base, 64, api.ErrForm)
	}
}

func TestOpenOverNumbersAboveMaxLsn(t *testing.T) {
	noLog(t, "two", diskOf(part(api.MaxLsn, "a", "b")), base, 64, api.ErrForm)
	noLog(t, "two, torn behind", diskOf(part(api.MaxLsn, "a", "b")+"rubbish"), base, 64, api.ErrForm)
	noLog(t, "three", diskOf(part(api.MaxLsn-1, "a", "b", "c")), base, 64, api.ErrForm)
	noLog(t, "the second", diskOf(part(api.MaxLsn-1, "a"), part(api.MaxLsn, "b", "c")), base, 64, api.ErrForm)
	noLog(t, "the first", diskOf(part(api.MaxLsn, "a", "b"), ""), base, 64, api.ErrForm)
	noLog(t, "the first, and a head above", diskOf(part(api.MaxLsn, "a", "b"), part(api.MaxLsn+2)), base, 64, api.ErrForm)
}

// mends asks that Open answers such a log by just these operations; power goes at each of them, and a log opened behind that is the same.
func mends(t *testing.T, what string, before func() *disk.Disk, want string, ops ...operation) {
	t.Helper()
	for n := 1; n <= len(ops)+1; n++ {
		d, hand := before(), before()
		d.Arm(n)
		hand.Arm(n)
		e := byHand(hand, ops)
		l, got := Open(d, base, 64)
		if got != e || (l == nil) != (e != api.OK) {
			t.Fatalf("%s: got a log %v, %d, want %d", what, l != nil, got, e)
		}
		same(t, what+": the disk", state(d), state(hand))
		if l == nil {
			d.Crash()
			l = opened(t, d, 64)
		}
		same(t, what, told(l), want)
		d.Arm(0)
		adds(t, l, "next")
		same(t, what+": opened anew", told(opened(t, d, 64)), told(l))
	}
}

func TestOpenOverALastFileThatIsNoSegment(t *testing.T) {
	for what, last := range map[string]string{
		"no bytes":                  "",
		"a byte":                    "\x01",
		"zeros":                     string(make([]byte, 64)),
		"a record that is no head":  record("a"),
		"a byte ahead of it":        "\x00" + part(3, "c"),
		"a head of 0":               part(0, "c"),
		"a head above MaxLsn":       part(api.MaxLsn+1, "c"),
		"a head with a byte less":   part(3, "c")[1:],
		"a head with a byte turned": head(3)[:18] + "\x04" + record("c"),
	} {
		mends(t, what+", alone", func() *disk.Disk { return diskOf(last) }, tells(1, 0), removes(base))
		mends(t, what, func() *disk.Disk { return diskOf(part(1, "a", "b"), last) }, tells(1, 1, "a", "b"), removes(base+1))
	}
	d := diskOf(part(api.MaxLsn, "a"), part(api.MaxLsn+1, "b"))
	same(t, "a head above the last entry", told(opened(t, d, 64)), tells(api.MaxLsn, 1, "a"))
	same(t, "its file", fmt.Sprint(d.Files()), fmt.Sprint([]int{base}))
}

// TestOpenBehindALastFileAlone: what is left has no number, so that the next entry begins at base.
func TestOpenBehindALastFileAlone(t *testing.T) {
	d := disk.New()
	lay(d, base+7, "rubbish")
	l := opened(t, d, 64)
	adds(t, l, "a")
	same(t, "begun anew", shown(d), shown(diskOf(part(1, "a"))))
}

// TestOpenOverALastFileThatIsCutOff: at each byte, behind other files and alone.
func TestOpenOverALastFileThatIsCutOff(t *testing.T) {
	entries := []string{"one", "", "three", head(9)[8:]}
	whole := part(3, entries...)
	for n := range len(whole) + 1 {
		what := fmt.Sprint("cut off at ", n)
		left, end := 0, 19
		for left < len(entries) && end+8+len(entries[left]) <= n {
			end += 8 + len(entries[left])
			left++
		}
		ops, alone := []operation(nil), []operation(nil)
		if n > end {
			ops, alone = append(ops, cuts(base+1, end)), append(alone, cuts(base, end))
		}
		want, wantAlone := tells(1, 2, append([]string{"a", "b"}, entries[:left]...)...), tells(3, 1, entries[:left]...)
		if n < 19 {
			ops, alone = []operation{removes(base + 1)}, []operation{removes(base)}
			want, wantAlone = tells(1, 1, "a", "b"), tells(1, 0)
		}
		mends(t, what, func() *disk.Disk { return diskOf(part(1, "a", "b"), whole[:n]) }, want, ops...)
		mends(t, what+", alone", func() *disk.Disk { return diskOf(whole[:n]) }, wantAlone, alone...)
	}
}

func TestOpenOverALastFileWithMoreBehind(t *testing.T) {
	for what, more := range map[string]string{
		"a byte":                        "\x00",
		"rubbish":                       "rubbish and more rubbish",
		"a length above MaxRecord":      "\xff\xff\xff\xff",
		"an entry turned, a whole more": record("b")[:8] + "c" + record("d"),
	} {
		mends(t, what, func() *disk.Disk { return diskOf(part(1, "a") + more) }, tells(1, 1, "a"), cuts(base, 28))
		mends(t, what+", behind a head", func() *disk.Disk { return diskOf(part(1, "a"), part(2)+more) }, tells(1, 2, "a"), cuts(base+1, 19))
	}
}

// TestOpenMendsWhatIsNotSafe: without a crash, bytes that are not safe count as others do.
func TestOpenMendsWhatIsNotSafe(t *testing.T) {
	d := disk.New()
	d.Append(base, []byte(part(1, "a")+"rub"))
	l := opened(t, d, 64)
	same(t, "the log", told(l), tells(1, 1, "a"))
	same(t, "the disk", state(d), fmt.Sprintf("2 operations, down false [%d: %q, 0 safe]", base, part(1, "a")))
}

func TestOtherFilesAreLeft(t *testing.T) {
	others := []int{0, base - 1, base + api.MaxSegs, base + api.MaxSegs + 1, api.MaxFile - 1}
	d, hand := disk.New(), disk.New()
	for _, f := range others {
		for _, x := range []*disk.Disk{d, hand} {
			lay(x, f, part(9, "other"))
			x.Append(f, []byte("rubbish"))
		}
	}
	l := opened(t, d, 64)
	same(t, "over other files", told(l), tells(1, 0))
	adds(t, l, text(40), text(40), text(40))
	l.Tear([]byte("abc"), 30)
	l.Trim(2)
	d.Append(base+3, []byte("rubbish"))
	l = opened(t, d, 64)
	same(t, "behind all", told(l), tells(3, 1, text(40)))
	d.Remove(base + 2)
	same(t, "other files", shown(d), shown(hand))
}

// TestTwoLogsOnOneDisk: each has its own files, though they lie side by side.
func TestTwoLogsOnOneDisk(t *testing.T) {
	d := disk.New()
	a := opened(t, d, 64)
	b, e := Open(d, base+api.MaxSegs, 100)
	if e != api.OK {
		t.Fatalf("Open: got %d", e)
	}
	adds(t, a, "one", text(40))
	adds(t, b, "two")
	a.Tear([]byte("torn"), 30)
	adds(t, b, text(80))
	b.Trim(1)
	adds(t, a, "three")
	same(t, "the one", told(a), tells(1, 3, "one", text(40), "three"))
	same(t, "the other", told(b), tells(2, 1, text(80)))
	same(t, "the one, anew", told(opened(t, d, 64)), told(a))
}

// TestOpenOfAllFiles: a log may have all its files.
func TestOpenOfAllFiles(t *testing.T) {
	d := disk.New()
	for i := range api.MaxSegs {
		lay(d, base+i, part(int64(i+1), text(i%50)))
	}
	l := opened(t, d, 64)
	same(t, "its numbers", fmt.Sprint(l.Low(), l.Head(), l.Segments()), fmt.Sprint(1, api.MaxSegs, api.MaxSegs))
	for i := range api.MaxSegs {
		if p, e := l.Read(int64(i + 1)); string(p) != text(i%50) || e != api.OK {
			t.Fatalf("Read(%d): got %q, %d", i+1, p, e)
		}
	}
	refuses(t, "no file more", l, d, api.ErrFull, appends(text(60)))
	l.Trim(api.MaxSegs)
	same(t, "trimmed", told(l), tells(api.MaxSegs, 1, text((api.MaxSegs-1)%50)))
	refuses(t, "no file more, the others gone", l, d, api.ErrFull, appends(text(60)))
}
