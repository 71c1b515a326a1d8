package src

import (
	"fmt"
	"math"
	"testing"

	"qanat/api"
	"qanat/disk"
)

// each is n transactions, each of which puts a row of its number into table 0.
func each(n int) []api.Txn {
	var l []api.Txn
	for i := range int64(n) {
		l = append(l, client(i+1, put(0, i+1, "v")))
	}
	return l
}

// upTo is the rows that the first n of them come to.
func upTo(n int) []api.Row {
	var l []api.Row
	for i := range int64(n) {
		l = append(l, row(i+1, "v"))
	}
	return l
}

// sourceOf is a source with n transactions, each in a file of its own, and with a second table, which has no rows.
func sourceOf(t *testing.T, n int) (*Source, *disk.Disk) {
	t.Helper()
	d := disk.New()
	s := opened(t, d, 2)
	for _, x := range each(n) {
		commits(t, s, x.Changes...)
	}
	return s, d
}

// pictureOf is the bytes of the image of sourceOf at n.
func pictureOf(t *testing.T, n int) string {
	t.Helper()
	return picture(t, int64(n), upTo(n), nil)
}

// trimmed is what a source of n transactions tells whose first ones were trimmed.
func trimmed(low, n int, image int64) string {
	return tells(int64(low), image, each(n)[low-1:], upTo(n), nil)
}

// removesFiles is Remove of the log's files of the transactions from a to b.
func removesFiles(a, b int) []operation {
	var l []operation
	for lsn := a; lsn <= b; lsn++ {
		l = append(l, removes(api.SourceBase+lsn-1))
	}
	return l
}

func TestTrimOfWrongNumbers(t *testing.T) {
	s, d := sourceOf(t, 3)
	for _, lsn := range []int64{math.MinInt64, -2, -1, 4, 5, api.MaxLsn, api.MaxLsn + 1, math.MaxInt64} {
		refuses(t, fmt.Sprintf("Trim(%d)", lsn), s, d, api.ErrArg, trim(lsn))
	}
	empty, none := sourceOf(t, 0)
	refuses(t, "above Head, of no transactions", empty, none, api.ErrArg, trim(1))
	refuses(t, "at 0, of no transactions", empty, none, api.OK, trim(0))
}

// TestTrim goes through all numbers, up to one Trim, and up to one behind another one.
func TestTrim(t *testing.T) {
	for a := range 5 {
		before := func() (*Source, *disk.Disk) {
			s, d := sourceOf(t, 4)
			trims(t, s, int64(a))
			return s, d
		}
		if a == 0 {
			s, d := before()
			refuses(t, "at 0", s, d, api.OK, trim(0))
			continue
		}
		s, d := before()
		low := min(a+1, 4)
		same(t, fmt.Sprint("behind Trim of ", a), told(s), trimmed(low, 4, 4))
		b, _ := d.Read(imageA)
		same(t, "the image", quoted(b), quoted(pictureOf(t, 4)))
		same(t, "the image is safe", fmt.Sprint(d.Synced(imageA), d.Len(imageB)), fmt.Sprint(len(b), -1))
		for c := range 5 {
			what := fmt.Sprintf("Trim of %d behind that of %d", c, a)
			after := func(done int) string { return trimmed(low+done, 4, 4) }
			does(t, what, before, trim(int64(c)), after, removesFiles(low, min(c, 3))...)
		}
	}
}

// TestTrimWritesAnImage: into ImageBase, if there is none; power goes at each operation.
func TestTrimWritesAnImage(t *testing.T) {
	for lsn := 1; lsn <= 4; lsn++ {
		for what, x := range map[string]struct {
			files pictures
			first []operation // what is done ahead of the Append
		}{
			"no file":                {pictures{"none", "none"}, nil},
			"no bytes":               {pictures{"", "none"}, []operation{cuts(imageA, 0)}},
			"rubbish in both":        {pictures{"rubbish", "rubbish"}, []operation{cuts(imageA, 0)}},
			"rubbish in the other":   {pictures{"none", "rubbish"}, nil},
			"images of three tables": {pictures{picture(t, 1, nil, nil, nil), picture(t, 9, nil, nil, nil)}, []operation{cuts(imageA, 0)}},
		} {
			before := func() (*Source, *disk.Disk) {
				_, d := sourceOf(t, 4)
				return opened(t, x.files.lay(d), 2), d
			}
			writes := append(append([]operation(nil), x.first...), lays(imageA, pictureOf(t, 4)), syncs(imageA))
			after := func(done int) string {
				if done < len(writes) {
					return trimmed(1, 4, 0)
				}
				return trimmed(1+done-len(writes), 4, 4)
			}
			n := len(writes)
			all := append(writes[:n:n], removesFiles(1, min(lsn, 3))...)
			does(t, fmt.Sprintf("%s, Trim of %d", what, lsn), before, trim(int64(lsn)), after, all...)
		}
	}
}

// TestTrimWritesBesideTheNewestImage: the newest one stays as it is.
func TestTrimWritesBesideTheNewestImage(t *testing.T) {
	at := func(n int) string { return pictureOf(t, n) }
	for what, x := range map[string]struct {
		files pictures
		image int
		into  int
		cut   bool
	}{
		"one, the other not there":                {pictures{at(2), "none"}, 2, imageB, false},
		"one, the first not there":                {pictures{"none", at(2)}, 2, imageA, false},
		"one, and no bytes":                       {pictures{at(2), ""}, 2, imageB, true},
		"one behind no bytes":                     {pictures{"", at(2)}, 2, imageA, true},
		"one, and a greater one that is not good": {pictures{at(2), at(3)[1:] + at(3)}, 2, imageB, true},
		"one of no transactions":                  {pictures{at(0), "none"}, 0, imageB, false},
		"one of none, in the other":               {pictures{"none", at(0)}, 0, imageA, false},
		"an elder one in the other":               {pictures{at(2), at(1)}, 2, imageB, true},
		"an elder one in the first":               {pictures{at(1), at(2)}, 2, imageA, true},
		"two of one lsn":                          {pictures{at(2), at(2)}, 2, imageB, true},
		"another number of tables":                {pictures{at(1), picture(t, 4, nil)}, 1, imageB, true},
		"another number of tables, first":         {pictures{picture(t, 4, nil), at(1)}, 1, imageA, true},
	} {
		before := func() (*Source, *disk.Disk) {
			_, d := sourceOf(t, 4)
			return opened(t, x.files.lay(d), 2), d
		}
		for lsn := range x.image + 1 {
			after := func(done int) string { return trimmed(1+done, 4, int64(x.image)) }
			does(t, fmt.Sprintf("%s, Trim of %d: no image", what, lsn), before, trim(int64(lsn)), after, removesFiles(1, lsn)...)
		}
		var writes []operation
		if x.cut {
			writes = append(writes, cuts(x.into, 0))
		}
		writes = append(writes, lays(x.into, at(4)), syncs(x.into))
		for lsn := x.image + 1; lsn <= 4; lsn++ {
			after := func(done int) string {
				if done < len(writes) {
					return trimmed(1, 4, int64(x.image))
				}
				return trimmed(1+done-len(writes), 4, 4)
			}
			n := len(writes)
			all := append(writes[:n:n], removesFiles(1, min(lsn, 3))...)
			does(t, fmt.Sprintf("%s, Trim of %d", what, lsn), before, trim(int64(lsn)), after, all...)
		}
	}
}

// TestImagesTakeTurns: each goes into the file of the elder one, also behind an Open.
func TestImagesTakeTurns(t *testing.T) {
	for _, anew := range []bool{false, true} {
		s, d := sourceOf(t, 0)
		var want pictures
		for n := 1; n <= 9; n++ {
			commits(t, s, put(0, int64(n), "v"))
			trims(t, s, int64(n))
			want[(n+1)%2] = pictureOf(t, n)
			for i, b := range want {
				got, _ := d.Read(imageA + i)
				same(t, fmt.Sprintf("image file %d at %d", i, n), quoted(got), quoted(b))
				same(t, "it is safe", d.Synced(imageA+i) == len(b) || b == "", true)
			}
			same(t, "the source", told(s), trimmed(n, n, int64(n)))
			if anew {
				s = opened(t, d, 2)
				same(t, "opened anew", told(s), trimmed(n, n, int64(n)))
			}
		}
	}
}

// TestTrimOfMoreThanOneInAFile: a file goes with its last transaction alone.
func TestTrimOfMoreThanOneInAFile(t *testing.T) {
	d := disk.New()
	s, e := Open(d, 2, 200) // room for two of these transactions
	if e != api.OK {
		t.Fatalf("Open: %d", e)
	}
	for _, x := range each(6) {
		commits(t, s, x.Changes...)
	}
	low := []int{1, 1, 3, 3, 5, 5, 5}
	for lsn := range 7 {
		trims(t, s, int64(lsn))
		image := int64(6)
		if lsn == 0 {
			image = 0
		}
		same(t, fmt.Sprint("Trim of ", lsn), told(s), trimmed(low[lsn], 6, image))
		same(t, "opened anew", told(opened(t, d, 2)), told(s))
	}
}

// TestTheGreatestImage: as many rows as may be, with the longest vals.
func TestTheGreatestImage(t *testing.T) {
	d := disk.New()
	s, e := Open(d, api.MaxTables, 65536)
	if e != api.OK {
		t.Fatalf("Open: %d", e)
	}
	long := "0123456789abcdef0123456789abcdef"
	want := make([][]api.Row, api.MaxTables)
	for i := range want {
		for at := 0; at < api.MaxRows; at += 8 {
			var l []api.Change
			for n := range 8 {
				key := api.MaxKey - api.MaxRows + int64(at+n) + 1
				l = append(l, put(i, key, long))
				want[i] = append(want[i], row(key, long))
			}
			commits(t, s, l...)
		}
	}
	trims(t, s, 1)
	same(t, "Image", s.Image(), s.Head())
	b, _ := d.Read(imageA)
	same(t, "the image", string(b) == picture(t, s.Head(), want...), true)
	trims(t, s, s.Head())
	s, e = Open(d, api.MaxTables, 65536)
	if e != api.OK {
		t.Fatalf("Open anew: %d", e)
	}
	for i := range want {
		rowsAre(t, fmt.Sprint("table ", i), s.Rows(i), want[i]...)
	}
}
