package src

import (
	"fmt"
	"math"
	"slices"
	"strings"
	"testing"

	"qanat/api"
	"qanat/disk"
	"qanat/field"
)

// noSource asks that Open is refused, and does nothing.
func noSource(t *testing.T, what string, d *disk.Disk, tables, size int, want api.Errno) {
	t.Helper()
	stood := state(d)
	if s, e := Open(d, tables, size); s != nil || e != want {
		t.Errorf("%s: Open(%d, %d): got a source %v, %d, want %d", what, tables, size, s != nil, e, want)
	}
	same(t, what+": the disk", state(d), stood)
}

// found asks what a source tells that is opened on d, and that nothing is done to d.
func found(t *testing.T, what string, d *disk.Disk, tables int, want string) {
	t.Helper()
	stood := state(d)
	same(t, what, told(opened(t, d, tables)), want)
	same(t, what+": the disk", state(d), stood)
}

func TestOpenOfWrongArguments(t *testing.T) {
	off, torn := diskOf(part(1)), diskOf(part(1)+"rubbish")
	powerGoes(off)
	for what, d := range map[string]*disk.Disk{
		"no file":    disk.New(),
		"a source":   logOf(t, 1, client(1, put(0, 1, "a"))),
		"power off":  off,
		"a torn log": torn,
		"no log":     diskOf("", ""),
	} {
		for _, n := range []int{math.MinInt, -1, 0, api.MaxTables + 1, 100, math.MaxInt} {
			noSource(t, what, d, n, size, api.ErrArg)
			noSource(t, what, d, n, 63, api.ErrArg)
		}
		for _, n := range []int{math.MinInt, -1, 0, 63, 65537, math.MaxInt} {
			noSource(t, what, d, 1, n, api.ErrArg)
		}
	}
}

func TestOpenAtTheLimits(t *testing.T) {
	for _, tables := range []int{1, 2, api.MaxTables - 1, api.MaxTables} {
		for _, n := range []int{64, 65, 65535, 65536} {
			d := disk.New()
			s, e := Open(d, tables, n)
			if s == nil || e != api.OK {
				t.Fatalf("Open(%d, %d): got %d", tables, n, e)
			}
			same(t, "a new source", told(s), tells(1, 0, nil, make([][]api.Row, tables)...))
			same(t, "the disk", state(d), state(disk.New()))
			commits(t, s, put(tables-1, 1, "a"))
			again, e := Open(d, tables, n)
			if e != api.OK {
				t.Fatalf("Open(%d, %d) anew: got %d", tables, n, e)
			}
			same(t, "opened anew", told(again), told(s))
		}
	}
}

// TestOpenHasTheErrorsOfTheLog: whatever the images are.
func TestOpenHasTheErrorsOfTheLog(t *testing.T) {
	one, two := laid(t, client(1)), laid(t, client(2))
	gap := diskOf(part(1, one))
	lay(gap, api.SourceBase+2, part(2, two))
	for what, d := range map[string]*disk.Disk{
		"a gap in the files":        gap,
		"a gap in the numbers":      diskOf(part(1, one), part(3, laid(t, client(3)))),
		"one without entries ahead": diskOf(part(1), part(1, one)),
		"a torn one ahead":          diskOf(part(1, one)+"x", part(2, two)),
		"no segment ahead":          diskOf("rubbish", part(1, one)),
		"a number above MaxLsn":     diskOf(part(api.MaxLsn, one, two)),
	} {
		noSource(t, what, d, 1, size, api.ErrForm)
		lay(d, imageA, picture(t, 1, nil))
		noSource(t, what+", with an image", d, 1, size, api.ErrForm)
		powerGoes(d)
		noSource(t, what+", power off", d, 1, size, api.ErrDown)
	}
	off := logOf(t, 1, client(2))
	powerGoes(off)
	noSource(t, "power off, and no source", off, 1, size, api.ErrDown)
	torn := map[string]*disk.Disk{"a Cut": diskOf(part(1, one) + "x"), "a Remove": diskOf(part(1, one), "x")}
	for what, d := range torn {
		d.Arm(1)
		if s, e := Open(d, 1, size); s != nil || e != api.ErrDown {
			t.Errorf("power goes at %s: got a source %v, %d, want ErrDown", what, s != nil, e)
		}
		d.Crash()
		same(t, what+": opened anew", told(opened(t, d, 1)), tells(1, 0, []api.Txn{client(1)}, nil))
	}
}

// TestOpenOfEntriesThatMayNotBe: each entry counts, also those that the newest image has.
func TestOpenOfEntriesThatMayNotBe(t *testing.T) {
	good := func(lsn int64) string { return laid(t, client(lsn, put(1, lsn, "v"))) }
	fields, _ := field.Encode(api.Field{Kind: api.FieldInt, N: 2})
	for what, bad := range map[string]string{
		"no bytes":              "",
		"rubbish":               "rubbish",
		"fields of another one": string(fields),
		"a lack":                good(2)[:len(good(2))-1],
		"a byte more":           good(2) + "x",
		"the number ahead":      good(1),
		"the number behind":     good(3),
		"a number far away":     good(api.MaxLsn),
		"table 2 of 2":          laid(t, client(2, put(2, 1, "a"))),
		"gone of table 2":       laid(t, client(2, gone(2, 1))),
		"table 7 of 2, later":   laid(t, client(2, put(1, 1, "a"), put(0, 1, "a"), put(7, 1, "a"))),
		"another mark":          laid(t, api.Txn{Lsn: 4, Kind: api.TxnLow, Mark: 2}),
	} {
		for where, files := range map[string][]string{
			"last":       {part(1, good(1), bad)},
			"amid":       {part(1, good(1), bad, good(3))},
			"one a file": {part(1, good(1)), part(2, bad), part(3, good(3))},
			"first":      {part(2, bad, good(3))},
		} {
			for with, at := range map[string]int64{"no image": 0, "an image at 1": 1, "an image at Head": 3} {
				d := diskOf(files...)
				if with != "no image" {
					lay(d, imageA, picture(t, at, nil, nil))
				}
				noSource(t, what+", "+where+", "+with, d, 2, size, api.ErrForm)
			}
		}
	}
	d := logOf(t, 1, client(1, put(0, 1, "a"), put(2, 5, "b")), api.Txn{Lsn: 2, Kind: api.TxnHigh, Mark: 1})
	for n := range api.MaxTables {
		if n < 2 {
			noSource(t, "fewer tables", d, n+1, size, api.ErrForm)
			continue
		}
		s := opened(t, d, n+1)
		same(t, "enough tables", fmt.Sprint(s.Rows(0), s.Rows(2), s.Tables()), fmt.Sprintf("[{1 a}] [{5 b}] %d", n+1))
	}
}

// TestOpenOverALog: without an image the tables are what all of its transactions come to.
func TestOpenOverALog(t *testing.T) {
	one, two := client(1, put(0, 5, "a"), put(1, 1, "b")), client(2, put(0, 5, "c"), gone(1, 1), put(0, 2, ""))
	low := api.Txn{Lsn: 3, Kind: api.TxnLow, Mark: 3}
	four := api.Txn{Lsn: 4, Kind: api.TxnClient, Signals: []string{"snapshot 0", "x"}}
	tables := [][]api.Row{rows(row(2, ""), row(5, "c")), nil}
	for what, x := range map[string]struct {
		files []string
		want  string
	}{
		"no file":          {nil, tells(1, 0, nil, nil, nil)},
		"a head":           {[]string{part(1)}, tells(1, 0, nil, nil, nil)},
		"one":              {[]string{part(1, laid(t, one))}, tells(1, 0, []api.Txn{one}, rows(row(5, "a")), rows(row(1, "b")))},
		"all in one file":  {[]string{part(1, laidAll(t, one, two, low, four)...)}, tells(1, 0, []api.Txn{one, two, low, four}, tables...)},
		"in three files":   {[]string{part(1, laid(t, one)), part(2, laidAll(t, two, low)...), part(4, laid(t, four))}, tells(1, 0, []api.Txn{one, two, low, four}, tables...)},
		"with a head last": {[]string{part(1, laidAll(t, one, two)...), part(3)}, tells(1, 0, []api.Txn{one, two}, tables...)},
	} {
		found(t, what, diskOf(x.files...), 2, x.want)
	}
}

// behind is transactions that put their own number, from 3 to 5.
func behind() []api.Txn {
	return []api.Txn{client(3, put(0, 3, "v")), client(4, gone(0, 90), put(0, 4, "v")), client(5, put(0, 5, "v"))}
}

// pictures is the bytes of the two image files; where they are "none", there is no file.
type pictures [2]string

// lays lays the image files on the disk.
func (p pictures) lay(d *disk.Disk) *disk.Disk {
	for i, b := range p {
		if b != "none" {
			lay(d, imageA+i, b)
		}
	}
	return d
}

// TestOpenOverImages: the tables are those of the newest image, and what was done behind it.
func TestOpenOverImages(t *testing.T) {
	at := func(lsn int64) string { return picture(t, lsn, rows(row(90, fmt.Sprint("of ", lsn)))) }
	of2, of3, of4 := rows(row(3, "v"), row(4, "v"), row(5, "v")), rows(row(4, "v"), row(5, "v")), rows(row(5, "v"), row(90, "of 4"))
	at5 := rows(row(90, "of 5"))
	other := picture(t, 5, nil, nil)
	for what, x := range map[string]struct {
		files pictures
		image int64
		want  []api.Row
	}{
		"one below Head":                     {pictures{at(2), "none"}, 2, of2},
		"one below Head, in the other":       {pictures{"none", at(3)}, 3, of3},
		"one amid":                           {pictures{at(4), "none"}, 4, of4},
		"one at Head":                        {pictures{at(5), "none"}, 5, at5},
		"one at Head, in the other":          {pictures{"none", at(5)}, 5, at5},
		"two, the first newer":               {pictures{at(5), at(3)}, 5, at5},
		"two, the second newer":              {pictures{at(3), at(5)}, 5, at5},
		"two, the elder far below Low":       {pictures{at(0), at(4)}, 4, of4},
		"two of one lsn":                     {pictures{at(4), picture(t, 4, rows(row(7, "w")))}, 4, of4},
		"two of one lsn, the other way":      {pictures{picture(t, 4, rows(row(7, "w"))), at(4)}, 4, rows(row(5, "v"), row(7, "w"))},
		"a good one beside no bytes":         {pictures{"", at(3)}, 3, of3},
		"a good one beside rubbish":          {pictures{at(3), "rubbish"}, 3, of3},
		"a good one beside a newer cut":      {pictures{at(5)[:len(at(5))-1], at(3)}, 3, of3},
		"a good one beside one with more":    {pictures{at(3), at(5) + "x"}, 3, of3},
		"a good one beside a turned one":     {pictures{at(3), "\x01" + at(5)[1:]}, 3, of3},
		"a good one beside one of two":       {pictures{other, at(3)}, 3, of3},
		"a good one ahead of one of two":     {pictures{at(3), other}, 3, of3},
		"a good one beside one above of two": {pictures{at(3), picture(t, 99, nil, nil)}, 3, of3},
	} {
		found(t, what, x.files.lay(logOf(t, 3, behind()...)), 1, tells(3, x.image, behind(), x.want))
	}
}

// TestOpenWithImagesThatDoNotGoWithTheLog: one above Head, or one that is more than one below Low, or none.
func TestOpenWithImagesThatDoNotGoWithTheLog(t *testing.T) {
	at := func(lsn int64) string { return picture(t, lsn, nil) }
	for what, files := range map[string]pictures{
		"none":                                   {"none", "none"},
		"none that is good":                      {"", "rubbish"},
		"of two tables":                          {picture(t, 2, nil, nil), picture(t, 5, nil, nil)},
		"two below Low":                          {at(1), "none"},
		"at 0":                                   {"none", at(0)},
		"both below Low":                         {at(0), at(1)},
		"one above Head":                         {at(6), "none"},
		"one above Head, in the other":           {"none", at(6)},
		"one above Head, beside one that may be": {at(4), at(6)},
		"one above Head, ahead of one":           {at(6), at(4)},
		"far above Head":                         {at(api.MaxLsn), at(5)},
	} {
		noSource(t, what, files.lay(logOf(t, 3, behind()...)), 1, size, api.ErrForm)
	}
}

// TestOpenWhereTheLogBeginsBehindTheImage: Low may be one above it, not more.
func TestOpenWhereTheLogBeginsBehindTheImage(t *testing.T) {
	r := rows(row(90, "w"))
	for low := int64(1); low <= 9; low++ {
		for lsn := int64(0); lsn <= 9; lsn++ {
			what := fmt.Sprintf("Low %d, an image at %d", low, lsn)
			files := pictures{"none", picture(t, lsn, r)}
			head := files.lay(diskOf(part(low)))
			if lsn != low-1 {
				noSource(t, what, head, 1, size, api.ErrForm)
			} else {
				found(t, what, head, 1, tells(low, lsn, nil, r))
			}
			one := files.lay(logOf(t, low, client(low, gone(0, 90))))
			switch lsn {
			case low - 1:
				found(t, what+", an entry", one, 1, tells(low, lsn, []api.Txn{client(low, gone(0, 90))}, nil))
			case low:
				found(t, what+", an entry", one, 1, tells(low, lsn, []api.Txn{client(low, gone(0, 90))}, r))
			default:
				noSource(t, what+", an entry", one, 1, size, api.ErrForm)
			}
		}
	}
	for _, low := range []int64{1, 2, 3} {
		d := disk.New()
		if low > 1 {
			d = diskOf(part(low))
		}
		// No image counts as one at 0.
		if low < 2 {
			found(t, "no image", d, 1, tells(1, 0, nil, nil))
		} else {
			noSource(t, "no image", d, 1, size, api.ErrForm)
		}
	}
}

// TestOpenWithAnImageAlone: without a log Head is 0, so that an image at 0 alone may be.
func TestOpenWithAnImageAlone(t *testing.T) {
	r := rows(row(1, "a"))
	found(t, "at 0", pictures{picture(t, 0, r), "none"}.lay(disk.New()), 1, tells(1, 0, nil, r))
	found(t, "at 0, in the other", pictures{"none", picture(t, 0, r)}.lay(disk.New()), 1, tells(1, 0, nil, r))
	found(t, "at 0, both", pictures{picture(t, 0, nil), picture(t, 0, r)}.lay(disk.New()), 1, tells(1, 0, nil, nil))
	noSource(t, "at 1", pictures{picture(t, 1, r), "none"}.lay(disk.New()), 1, size, api.ErrForm)
	noSource(t, "at 1 beside one at 0", pictures{picture(t, 0, r), picture(t, 1, r)}.lay(disk.New()), 1, size, api.ErrForm)
}

// TestOpenOfEachNumberOfTables: an image of another number is none.
func TestOpenOfEachNumberOfTables(t *testing.T) {
	for has := 1; has <= api.MaxTables; has++ {
		tables := make([][]api.Row, has)
		for i := range tables {
			tables[i] = rows(row(int64(i)+1, "v"), row(api.MaxKey, fmt.Sprint(i)))
		}
		for n := 1; n <= api.MaxTables; n++ {
			d := logOf(t, 2, client(2, put(0, 50, "w")))
			lay(d, imageB, picture(t, 1, tables...))
			what := fmt.Sprintf("%d tables, an image of %d", n, has)
			if n != has {
				noSource(t, what, d, n, size, api.ErrForm)
				continue
			}
			want := slices.Clone(tables)
			want[0] = rows(row(1, "v"), row(50, "w"), row(api.MaxKey, "0"))
			found(t, what, d, n, tells(2, 1, []api.Txn{client(2, put(0, 50, "w"))}, want...))
		}
	}
}

// TestWhatTheLogMendedStays: also where Open answers ErrForm then.
func TestWhatTheLogMendedStays(t *testing.T) {
	one := laid(t, client(1))
	for what, x := range map[string]struct {
		files, mended []string
		image         string
	}{
		"no transaction, a Cut":           {[]string{part(1, one, "bad") + "torn"}, []string{part(1, one, "bad")}, "none"},
		"no transaction, a Remove":        {[]string{part(1, one, "bad"), "torn"}, []string{part(1, one, "bad")}, "none"},
		"an image above Head, a Cut":      {[]string{part(1, one) + "torn"}, []string{part(1, one)}, picture(t, 2, nil)},
		"an image above Head, a Remove":   {[]string{part(1, one), "torn"}, []string{part(1, one)}, picture(t, 2, nil)},
		"an image below Low, a Cut":       {[]string{part(3) + "torn"}, []string{part(3)}, picture(t, 1, nil)},
		"a torn last one, and no log":     {[]string{"torn"}, nil, picture(t, 1, nil)},
		"another number, and a torn file": {[]string{part(2, one), part(3)[:9]}, []string{part(2, one)}, picture(t, 1, nil)},
	} {
		d, want := pictures{x.image, "none"}.lay(diskOf(x.files...)), pictures{x.image, "none"}.lay(diskOf(x.mended...))
		ops := d.Ops()
		if s, e := Open(d, 1, size); s != nil || e != api.ErrForm {
			t.Errorf("%s: got a source %v, %d, want ErrForm", what, s != nil, e)
		}
		same(t, what+": one operation", d.Ops(), ops+1)
		files := func(d *disk.Disk) string { _, l, _ := strings.Cut(state(d), "["); return l }
		same(t, what+": the files", files(d), files(want))
		noSource(t, what+": once more", d, 1, size, api.ErrForm)
	}
}

// TestOpenMends: what a crash left of a transaction is taken away, and no more is done.
func TestOpenMends(t *testing.T) {
	one, two := client(1, put(0, 1, "a")), client(2, put(0, 2, "b"))
	whole := part(2, laid(t, two))
	for n := range len(whole) {
		d := diskOf(part(1, laid(t, one)), whole[:n])
		ops := d.Ops()
		s := opened(t, d, 1)
		same(t, fmt.Sprint("torn behind ", n), told(s), tells(1, 0, []api.Txn{one}, rows(row(1, "a"))))
		mended := 1
		if n == len(part(2)) {
			mended = 0
		}
		same(t, "operations", d.Ops(), ops+mended)
		commits(t, s, put(0, 2, "c"))
		same(t, "opened anew", told(opened(t, d, 1)), told(s))
	}
}

// TestOpenOfTablesThatAreTooGreat: what no source commits may stand in a log; then no more fits, and no image can be written.
func TestOpenOfTablesThatAreTooGreat(t *testing.T) {
	var l []api.Txn
	for at := int64(0); at <= api.MaxRows; at += api.MaxChanges {
		n := int(min(api.MaxChanges, api.MaxRows+1-at))
		l = append(l, client(int64(len(l))+1, puts(0, at+1, n)...))
	}
	d := logOf(t, 1, l...)
	s := opened(t, d, 2)
	same(t, "all are there", len(s.Rows(0)), api.MaxRows+1)
	refuses(t, "one more", s, d, api.ErrFull, commit(nil, put(0, 5000, "")))
	refuses(t, "one of another table", s, d, api.ErrFull, commit(nil, put(1, 1, "")))
	refuses(t, "no changes", s, d, api.ErrFull, commit(nil))
	refuses(t, "a mark", s, d, api.ErrFull, mark(api.TxnLow, 1))
	refuses(t, "Trim", s, d, api.ErrArg, trim(1))
	powerGoes(d)
	refuses(t, "Trim with power off", s, d, api.ErrDown, trim(1))
	d.Crash()
	s = opened(t, d, 2)
	trims(t, s, 0)
	commits(t, s, gone(0, 1))
	trims(t, s, 1)
	same(t, "Image", s.Image(), s.Head())
}
