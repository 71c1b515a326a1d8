package sink

import (
	"fmt"
	"math"
	"testing"

	"qanat/api"
	"qanat/disk"
	"qanat/field"
)

// noSink asks that Open is refused, and does nothing.
func noSink(t *testing.T, what string, d *disk.Disk, tables, size int, want api.Errno) {
	t.Helper()
	stood := state(d)
	if k, e := Open(d, tables, size); k != nil || e != want {
		t.Errorf("%s: Open(%d, %d): got a sink %v, %d, want %d", what, tables, size, k != nil, e, want)
	}
	same(t, what+": the disk", state(d), stood)
}

// found asks what a sink tells that is opened on d, and that nothing is done to d.
func found(t *testing.T, what string, d *disk.Disk, tables int, want string) {
	t.Helper()
	stood := state(d)
	same(t, what, told(opened(t, d, tables)), want)
	same(t, what+": the disk", state(d), stood)
}

// cells is the cells of one table.
func cells(l ...api.Cell) []api.Cell { return l }

// tables is the cells of several.
func tables(l ...[]api.Cell) [][]api.Cell { return l }

// some is three items with ops for tables 0 and 1, and notes of both Kinds, which fit one behind the other.
func some() []api.Item {
	return []api.Item{
		item(3, ops(put(2, 0, 5, "a"), put(3, 1, 6, "b"), put(1, 0, 5, "late")), accept(1, 0, 2, 2), chunk(1, 4, false), accept(2, 1, 8, 3)),
		item(4, ops(gone(4, 1, 6), put(4, 1, 1, "")), chunk(2, 0, true)),
		item(9, ops(put(7, 1, 6, "c"), put(8, 0, 2, "d")), accept(3, 1, 1, 9), chunk(1, 4, false), chunk(3, 7, false), chunk(1, 9, true)),
	}
}

// behindSome is what a sink has behind the first n of them.
func behindSome(n int) content {
	return []content{
		{tables: tables(nil, nil)},
		{
			lsn: 3, batches: 1,
			reqs:   []api.Req{{ID: 1, Table: 0, Weight: 2, At: 2, Cursor: 4, Chunks: 1}, {ID: 2, Table: 1, Weight: 8, At: 3}},
			tables: tables(cells(api.Cell{Key: 5, Lsn: 2, Val: "a"}), cells(api.Cell{Key: 6, Lsn: 3, Val: "b"})),
		},
		{
			lsn: 4, batches: 2,
			reqs:   []api.Req{{ID: 1, Table: 0, Weight: 2, At: 2, Cursor: 4, Chunks: 1}, {ID: 2, Table: 1, Weight: 8, At: 3, Chunks: 1, Done: true}},
			tables: tables(cells(api.Cell{Key: 5, Lsn: 2, Val: "a"}), cells(api.Cell{Key: 1, Lsn: 4}, api.Cell{Key: 6, Lsn: 4, Gone: true})),
		},
		{
			lsn: 9, batches: 3,
			reqs: []api.Req{
				{ID: 1, Table: 0, Weight: 2, At: 2, Cursor: 9, Chunks: 3, Done: true}, {ID: 2, Table: 1, Weight: 8, At: 3, Chunks: 1, Done: true},
				{ID: 3, Table: 1, Weight: 1, At: 9, Cursor: 7, Chunks: 1},
			},
			tables: tables(cells(api.Cell{Key: 2, Lsn: 8, Val: "d"}, api.Cell{Key: 5, Lsn: 2, Val: "a"}), cells(api.Cell{Key: 1, Lsn: 4}, api.Cell{Key: 6, Lsn: 7, Val: "c"})),
		},
	}[n]
}

func TestOpenOfWrongArguments(t *testing.T) {
	off, torn := diskOf(part(1)), diskOf(part(1)+"rubbish")
	powerGoes(off)
	for what, d := range map[string]*disk.Disk{
		"no file":    disk.New(),
		"a sink":     logOf(t, puts(1)),
		"no sink":    diskOf(part(1, "x")),
		"power off":  off,
		"a torn log": torn,
		"no log":     diskOf("", ""),
	} {
		for _, n := range []int{math.MinInt, -1 << 32, -api.MaxTables, -1, 0, api.MaxTables + 1, 100, 1<<32 + 1, math.MaxInt} {
			noSink(t, what, d, n, size, api.ErrArg)
			noSink(t, what, d, n, 63, api.ErrArg)
		}
		for _, n := range []int{math.MinInt, -64, -1, 0, 63, 65537, 1<<32 + 64, math.MaxInt} {
			noSink(t, what, d, 1, n, api.ErrArg)
			noSink(t, what, d, api.MaxTables, n, api.ErrArg)
		}
	}
}

func TestOpenAtTheLimits(t *testing.T) {
	for n := range api.MaxTables {
		for _, segment := range []int{64, 65, 65535, 65536} {
			d := disk.New()
			k, e := Open(d, n+1, segment)
			if k == nil || e != api.OK {
				t.Fatalf("Open(%d, %d): got %d", n+1, segment, e)
			}
			same(t, "a new sink", told(k), tells(content{tables: make([][]api.Cell, n+1)}))
			same(t, "the disk", state(d), state(disk.New()))
			commits(t, k, item(1, ops(put(1, n, 1, "a"))), item(2, nil))
			again, e := Open(d, n+1, segment)
			if e != api.OK {
				t.Fatalf("Open(%d, %d) anew: got %d", n+1, segment, e)
			}
			same(t, "opened anew", told(again), told(k))
		}
	}
}

// TestOpenOverALog: of one file, and of several, with whatever else is on the disk.
func TestOpenOverALog(t *testing.T) {
	for n := range len(some()) + 1 {
		want := tells(behindSome(n))
		one, each := logOf(t, some()[:n]...), disk.New()
		for i, x := range some()[:n] {
			lay(each, api.SinkBase+i, part(int64(i)+1, laid(t, x)))
		}
		for what, d := range map[string]*disk.Disk{"one file": one, "one a file": each} {
			found(t, what, d, 2, want)
			for f, b := range map[int]string{0: "rubbish", api.SourceBase: part(5, "x"), api.SinkBase - 1: "x", api.SinkBase + api.MaxSegs: "y", api.MaxFile - 1: ""} {
				lay(d, f, b)
			}
			d.Append(api.SourceBase, []byte("not safe"))
			found(t, what+", and others", d, 2, want)
		}
	}
	more := behindSome(3)
	more.tables = append(more.tables, make([][]api.Cell, api.MaxTables-2)...)
	found(t, "more tables", logOf(t, some()...), api.MaxTables, tells(more))
	found(t, "files that do not begin at the first one", fullOf(t, some()...), 2, tells(behindSome(3)))
	noSink(t, "fewer tables", logOf(t, some()...), 1, size, api.ErrForm)
	noSink(t, "fewer tables", logOf(t, some()[:1]...), 1, size, api.ErrForm)
}

// TestOpenWithPowerOff: that comes ahead of what the log has.
func TestOpenWithPowerOff(t *testing.T) {
	for what, d := range map[string]*disk.Disk{
		"no file": disk.New(), "a sink": logOf(t, some()...), "no log": diskOf("x", "y"), "a torn one": diskOf(part(1) + "x"), "no items": diskOf(part(1, "x")), "a trimmed one": diskOf(part(2, laid(t, puts(2)))),
	} {
		powerGoes(d)
		noSink(t, what, d, 2, size, api.ErrDown)
		noSink(t, what, d, 1, 65536, api.ErrDown)
		noSink(t, what, d, 2, 63, api.ErrArg)
		noSink(t, what, d, 9, size, api.ErrArg)
	}
}

// TestOpenHasTheErrorsOfTheLog: ErrForm, where the files are no log.
func TestOpenHasTheErrorsOfTheLog(t *testing.T) {
	one, two := laid(t, puts(1)), laid(t, puts(2))
	gap := diskOf(part(1, one))
	lay(gap, api.SinkBase+2, part(2, two))
	for what, d := range map[string]*disk.Disk{
		"a gap in the files":        gap,
		"a gap in the numbers":      diskOf(part(1, one), part(3, two)),
		"a number twice":            diskOf(part(1, one), part(1, two)),
		"one without entries ahead": diskOf(part(1), part(1, one)),
		"a torn one ahead":          diskOf(part(1, one)+"x", part(2, two)),
		"no segment ahead":          diskOf("rubbish", part(1, one)),
		"a number above MaxLsn":     diskOf(part(api.MaxLsn, one, two)),
	} {
		noSink(t, what, d, 2, size, api.ErrForm)
	}
}

// TestOpenOfALogThatWasTrimmed: its first entry is to be the number 1, if it has one.
func TestOpenOfALogThatWasTrimmed(t *testing.T) {
	for _, first := range []int64{2, 3, 1000, api.MaxLsn - 1, api.MaxLsn} {
		what := fmt.Sprint("from ", first)
		noSink(t, what, diskOf(part(first, laid(t, puts(first)))), 2, size, api.ErrForm)
		noSink(t, what+", of Lsn 1", diskOf(part(first, laid(t, puts(1)))), 2, size, api.ErrForm)
		d := diskOf(part(first))
		found(t, what+", without entries", d, 2, tells(content{tables: tables(nil, nil)}))
		k := opened(t, d, 2)
		commits(t, k, item(7, nil))
		same(t, what+": one more", told(k), tells(content{lsn: 7, batches: 1, tables: tables(nil, nil)}))
		noSink(t, what+", opened anew", d, 2, size, api.ErrForm)
	}
	noSink(t, "several", diskOf(part(2, laid(t, puts(1))), part(3, laid(t, puts(2)))), 2, size, api.ErrForm)
	found(t, "a head alone", diskOf(part(1)), 2, tells(content{tables: tables(nil, nil)}))
}

// wrong is entries that no item in a sink of 2 tables has behind one of Lsn 4, with the requests that it leaves:
// 1 of table 0, accepted by 2, with the Cursor 5; 2 of table 1, accepted by 3, which is done.
func wrong(t *testing.T) map[string]string {
	t.Helper()
	fields, _ := field.Encode(api.Field{Kind: api.FieldInt, N: 5})
	good := laid(t, item(5, nil))
	all := map[string]string{
		"no bytes": "", "rubbish": "rubbish", "other fields": string(fields), "a lack": good[:len(good)-1], "a byte more": good + "x",
		"the Lsn ahead": laid(t, item(4, nil)), "an Lsn below": laid(t, item(3, nil)), "an Lsn far below": laid(t, item(1, nil)),
	}
	for what, x := range wrongOps() {
		all[what] = laid(t, x)
	}
	for what, x := range wrongNotes() {
		all[what] = laid(t, x)
	}
	return all
}

// wrongOps is items with ops of a table that there is not, where there are two.
func wrongOps() map[string]api.Item {
	return map[string]api.Item{
		"table 2 of 2":        item(5, ops(put(5, 2, 1, "a"))),
		"gone of table 2":     item(5, ops(gone(5, 2, 1))),
		"of the last table":   item(5, ops(put(1, api.MaxTables-1, 1, "a"))),
		"an op of it, later":  item(5, ops(put(5, 1, 1, "a"), put(5, 0, 1, "a"), put(5, 2, 1, "a"))),
		"an op of it, first":  item(5, ops(put(5, 2, 1, "a"), put(5, 0, 1, "a")), chunk(1, 5, false)),
		"and an Lsn far away": item(api.MaxLsn, ops(put(5, 2, 1, "a"))),
	}
}

// wrongNotes is items with notes that can't be done behind these requests.
func wrongNotes() map[string]api.Item {
	return map[string]api.Item{
		"accepted again":               item(5, nil, accept(1, 1, 1, 3)),
		"the last one again":           item(5, nil, accept(2, 1, 1, 3)),
		"an ID left out":               item(5, nil, accept(4, 1, 1, 3)),
		"the last ID that may be":      item(5, nil, accept(api.MaxReqs, 1, 1, 3)),
		"a table with an open request": item(5, nil, accept(3, 0, 1, 3)),
		"an At that falls":             item(5, nil, accept(3, 1, 1, 2)),
		"the first At":                 item(5, nil, accept(3, 1, 1, 1)),
		"of no request":                item(5, nil, chunk(3, 9, false)),
		"of the last one":              item(5, nil, chunk(api.MaxReqs, api.MaxKey, true)),
		"of one that is done":          item(5, nil, chunk(2, 9, false)),
		"done again":                   item(5, nil, chunk(2, 9, true)),
		"a Cursor that falls":          item(5, nil, chunk(1, 4, false)),
		"a Cursor at the front":        item(5, nil, chunk(1, 0, true)),
		"the second one twice":         item(5, nil, accept(3, 1, 1, 4), accept(3, 2, 1, 4)),
		"one for a table twice":        item(5, nil, accept(3, 1, 1, 4), accept(4, 1, 1, 5)),
		"an At below the one ahead":    item(5, nil, accept(3, 1, 1, 4), accept(4, 2, 1, 3)),
		"a chunk ahead of its request": item(5, nil, chunk(3, 1, false), accept(3, 1, 1, 4)),
		"a chunk behind the last one":  item(5, nil, chunk(1, 6, true), chunk(1, 7, false)),
		"a Cursor that falls, later":   item(5, ops(put(5, 0, 1, "a")), chunk(1, 8, false), chunk(1, 8, false), chunk(1, 7, false)),
		"the last one of many":         item(5, nil, accept(3, 1, 1, 4), chunk(3, 1, true), accept(4, 1, 1, 4), chunk(1, 5, true), accept(5, 0, 1, 4), accept(6, 0, 1, 4)),
	}
}

// aheadOfWrong is the items that leave these requests.
func aheadOfWrong() []api.Item {
	return []api.Item{item(2, nil, accept(1, 0, 1, 2)), item(4, ops(put(4, 1, 1, "a")), chunk(1, 5, false), accept(2, 1, 1, 3), chunk(2, 1, true))}
}

func TestOpenOfEntriesThatMayNotBe(t *testing.T) {
	ahead := laidAll(t, aheadOfWrong()...)
	opened(t, diskOf(part(1, ahead...)), 2)
	more := laid(t, item(api.MaxLsn, nil))
	for what, bad := range wrong(t) {
		noSink(t, what+", last", diskOf(part(1, ahead[0], ahead[1], bad)), 2, size, api.ErrForm)
		noSink(t, what+", amid", diskOf(part(1, ahead[0], ahead[1], bad, more)), 2, size, api.ErrForm)
		noSink(t, what+", in a file of its own", diskOf(part(1, ahead[0]), part(2, ahead[1]), part(3, bad), part(4, more)), 2, size, api.ErrForm)
		noSink(t, what+", in another file", diskOf(part(1, ahead[0]), part(2, ahead[1], bad)), 2, size, api.ErrForm)
	}
}

// TestOpenOfAFirstEntryThatMayNotBe: likewise, where no request is there.
func TestOpenOfAFirstEntryThatMayNotBe(t *testing.T) {
	good := laid(t, item(5, nil))
	bad := map[string]string{"no bytes": "", "rubbish": "x", "a lack": good[:1], "two": good + good}
	for what, x := range wrongOps() {
		bad[what] = laid(t, item(x.Lsn, x.Ops))
	}
	for what, note := range map[string]api.Note{"a chunk": chunk(1, 5, false), "the second request": accept(2, 0, 1, 5), "request 64": accept(64, 0, 1, 5)} {
		bad[what] = laid(t, item(5, nil, note))
		bad[what+", behind one that can be done"] = laid(t, item(5, nil, accept(1, 1, 1, 5), chunk(1, 5, true), note))
	}
	delete(bad, "the second request, behind one that can be done") // that is the next one there
	for what, b := range bad {
		noSink(t, what, diskOf(part(1, b)), 2, size, api.ErrForm)
		noSink(t, what+", with one more", diskOf(part(1, b, laid(t, item(api.MaxLsn, nil)))), 2, size, api.ErrForm)
	}
	found(t, "the first one of an Lsn far away", diskOf(part(1, laid(t, item(api.MaxLsn, nil)))), 2, tells(content{lsn: api.MaxLsn, batches: 1, tables: tables(nil, nil)}))
}

// TestOpenMends: what a crash left of an item is taken away, and stays away where Open is refused then.
func TestOpenMends(t *testing.T) {
	good, bad := some()[0], puts(3)
	for what, c := range map[string]struct {
		rest    string
		file    int // where it is, from the log's first file on
		mending operation
	}{
		"bytes behind the records": {"rest", 0, cuts(api.SinkBase, len(part(1, laid(t, good), laid(t, bad))))},
		"a file that is none":      {head(3)[:9], 1, removes(api.SinkBase + 1)},
		"an empty one":             {"", 1, removes(api.SinkBase + 1)},
		"half a record":            {record(laid(t, puts(4)))[:20], 0, cuts(api.SinkBase, len(part(1, laid(t, good), laid(t, bad))))},
	} {
		for tables, want := range map[int]api.Errno{2: api.ErrForm, 1: api.ErrForm} {
			d, hand := logOf(t, good, bad), logOf(t, good, bad)
			lay(d, api.SinkBase+c.file, c.rest)
			lay(hand, api.SinkBase+c.file, c.rest)
			k, e := Open(d, tables, size)
			c.mending(hand)
			same(t, what+": refused", fmt.Sprint(k == nil, e), fmt.Sprint(true, want))
			same(t, what+": mended", state(d), state(hand))
			noSink(t, what+": once more", d, tables, size, want)
		}
		d, hand := logOf(t, good, item(4, ops(put(3, 0, 3, "v3")))), logOf(t, good, item(4, ops(put(3, 0, 3, "v3"))))
		lay(d, api.SinkBase+c.file, c.rest)
		lay(hand, api.SinkBase+c.file, c.rest)
		c.mending(hand)
		k := opened(t, d, 2)
		same(t, what+": mended", state(d), state(hand))
		same(t, what+": Lsn", k.Lsn(), 4)

		d = logOf(t, good, bad)
		lay(d, api.SinkBase+c.file, c.rest)
		d.Arm(1)
		k, e := Open(d, 2, size)
		same(t, what+": power goes at that", fmt.Sprint(k == nil, e), fmt.Sprint(true, api.ErrDown))
	}
}

// TestOpenAgain: what Plan had is gone, and all else is as it was.
func TestOpenAgain(t *testing.T) {
	k, d := filled(t, some(), refuse, tear(4), lost)
	want := behindSome(3)
	want.faults = 3
	same(t, "ahead", told(k), tells(want))
	found(t, "opened anew", d, 2, tells(behindSome(3)))
	d.Crash()
	found(t, "behind a crash", d, 2, tells(behindSome(3)))
}
