package sink

import (
	"fmt"
	"math"
	"slices"
	"strings"
	"testing"

	"qanat/api"
	"qanat/disk"
)

func TestCommitOneByOne(t *testing.T) {
	for _, segment := range []int{64, 200, 65536} {
		d := disk.New()
		k, _ := Open(d, 2, segment)
		same(t, "a new sink", told(k), tells(behindSome(0)))
		for i, x := range some() {
			same(t, "the answer", k.Commit(x), api.OK)
			same(t, fmt.Sprint("behind ", i+1), told(k), tells(behindSome(i+1)))
			again, e := Open(d, 2, segment)
			if e != api.OK {
				t.Fatalf("opened anew behind %d: got %d", i+1, e)
			}
			same(t, fmt.Sprint("opened anew behind ", i+1), told(again), tells(behindSome(i+1)))
		}
	}
}

// TestTheExample: that of the chapter.
func TestTheExample(t *testing.T) {
	k := opened(t, disk.New(), 1)
	same(t, "one", k.Commit(api.Item{Lsn: 3}), api.OK)
	same(t, "Lsn", k.Lsn(), 3)
	same(t, "the same", k.Commit(api.Item{Lsn: 3}), api.OK)
	same(t, "Batches", k.Batches(), 1)
}

// TestOfTablesThatThereAreNot: nothing.
func TestOfTablesThatThereAreNot(t *testing.T) {
	k, _ := filled(t, some())
	for _, n := range []int{math.MinInt, -1 << 32, -1, 2, 3, 7, 8, 9, 1 << 32, 1<<32 + 1, math.MaxInt} {
		if rows, cells := k.Rows(n), k.Cells(n); len(rows) != 0 || len(cells) != 0 {
			t.Errorf("of table %d: got %v, %v, want none", n, rows, cells)
		}
	}
}

// mayNotBe is items that may not be, whatever their Lsn is.
func mayNotBe(lsn int64) map[string]api.Item {
	long := strings.Repeat("x", api.MaxVal+1)
	many := slices.Repeat(ops(put(1, 0, 1, "a")), api.MaxOps+1)
	return map[string]api.Item{
		"an op of Lsn 0":           item(lsn, ops(put(0, 0, 1, "a"))),
		"an op above the item":     item(lsn, ops(put(lsn+1, 0, 1, "a"))),
		"of table -1":              item(lsn, ops(put(lsn, -1, 1, "a"))),
		"of table MaxTables":       item(lsn, ops(put(lsn, api.MaxTables, 1, "a"))),
		"of a table far away":      item(lsn, ops(put(lsn, 1<<32, 1, "a"))),
		"key 0":                    item(lsn, ops(put(lsn, 0, 0, "a"))),
		"a key too high":           item(lsn, ops(put(lsn, 0, api.MaxKey+1, "a"))),
		"a Val too long":           item(lsn, ops(put(lsn, 0, 1, long))),
		"gone, with a Val":         item(lsn, ops(api.Op{Lsn: 1, Key: 1, Gone: true, Val: "a"})),
		"the last op of many":      item(lsn, ops(put(1, 0, 1, "a"), put(1, 1, 1, "a"), put(lsn+1, 0, 1, "a"))),
		"too many ops":             item(lsn, many),
		"a Kind 0":                 item(lsn, nil, api.Note{ID: 1}),
		"a Kind 3":                 item(lsn, nil, api.Note{Kind: 3, ID: 1}),
		"accepted with ID 0":       item(lsn, nil, accept(0, 0, 1, 1)),
		"accepted with ID 65":      item(lsn, nil, accept(65, 0, 1, 1)),
		"accepted of Weight 0":     item(lsn, nil, accept(1, 0, 0, 1)),
		"accepted of Weight 9":     item(lsn, nil, accept(1, 0, 9, 1)),
		"accepted of table 8":      item(lsn, nil, accept(1, 8, 1, 1)),
		"accepted of table -1":     item(lsn, nil, accept(1, -1, 1, 1)),
		"accepted At 0":            item(lsn, nil, accept(1, 0, 1, 0)),
		"accepted above the item":  item(lsn, nil, accept(1, 0, 1, lsn+1)),
		"accepted with a Cursor":   item(lsn, nil, api.Note{Kind: api.NoteAccept, ID: 1, Weight: 1, At: 1, Cursor: 1}),
		"accepted and Done":        item(lsn, nil, api.Note{Kind: api.NoteAccept, ID: 1, Weight: 1, At: 1, Done: true}),
		"a chunk with an At":       item(lsn, nil, api.Note{Kind: api.NoteChunk, ID: 1, At: 1}),
		"a chunk below key 0":      item(lsn, nil, chunk(1, -1, false)),
		"a chunk too far":          item(lsn, nil, chunk(1, api.MaxKey+1, false)),
		"too many notes":           item(lsn, nil, slices.Repeat([]api.Note{chunk(1, 5, false)}, api.MaxNotes+1)...),
		"the last note of several": item(lsn, nil, chunk(1, 5, false), chunk(1, 5, false), chunk(0, 5, false)),
	}
}

// sinkAheadOfWrong is a sink of Lsn 4 with the requests that wrongNotes speaks of, with these faults.
func sinkAheadOfWrong(t *testing.T, faults ...api.Fault) (*Sink, *disk.Disk) {
	t.Helper()
	return filled(t, aheadOfWrong(), faults...)
}

// TestCommitOfWhatMayNotBe: with an Lsn above, the same as and below Lsn, with and without a fault.
func TestCommitOfWhatMayNotBe(t *testing.T) {
	for _, faults := range [][]api.Fault{nil, {refuse}, {tear(5), lost}, {lost}} {
		k, d := sinkAheadOfWrong(t, faults...)
		for _, lsn := range []int64{math.MinInt64, -4, -1, 0, api.MaxLsn + 1, 1<<42 + 5, math.MaxInt64} {
			refuses(t, "an Lsn that may not be", k, d, item(lsn, nil))
		}
		for _, lsn := range []int64{5, 9, api.MaxLsn, 4, 3, 1} {
			for what, x := range mayNotBe(lsn) {
				refuses(t, fmt.Sprint(what, ", Lsn ", lsn), k, d, x)
			}
		}
		powerGoes(d)
		for what, x := range mayNotBe(5) {
			refuses(t, what+", power off", k, d, x)
		}
	}
}

// TestCommitOfWhatDoesNotFit: refused, if it has an Lsn above Lsn; else it is there already.
func TestCommitOfWhatDoesNotFit(t *testing.T) {
	all := wrongNotes()
	for what, x := range wrongOps() {
		all[what] = x
	}
	for _, faults := range [][]api.Fault{nil, {refuse}, {tear(5), lost}, {lost}} {
		for what, x := range all {
			k, d := sinkAheadOfWrong(t, faults...)
			refuses(t, what, k, d, x)
			x.Lsn = api.MaxLsn
			refuses(t, what+", far away", k, d, x)
			powerGoes(d)
			refuses(t, what+", power off", k, d, x)
		}
	}
}

// TestCommitOfWhatDoesNotFitAndIsOld: whether it fits plays no part.
func TestCommitOfWhatDoesNotFitAndIsOld(t *testing.T) {
	for what, x := range map[string]api.Item{
		"table 2 of 2":             item(4, ops(put(4, 2, 1, "a"))),
		"the last table, of Lsn 1": item(1, ops(put(1, 7, 1, "a"))),
		"accepted again":           item(4, nil, accept(1, 0, 1, 2)),
		"an ID left out":           item(3, nil, accept(9, 0, 1, 2)),
		"of no request":            item(4, nil, chunk(9, 1, true)),
		"of one that is done":      item(2, nil, chunk(2, 1, true)),
		"a Cursor that falls":      item(4, nil, chunk(1, 0, true)),
	} {
		k, d := sinkAheadOfWrong(t)
		answers(t, what, k, d, x, api.OK, 0)
		plans(t, k, refuse, tear(7), lost)
		for n := range 3 {
			answers(t, fmt.Sprint(what, ", fault ", n), k, d, x, api.ErrFault, 1)
		}
		answers(t, what+", and no fault more", k, d, x, api.OK, 0)
		plans(t, k, lost)
		powerGoes(d)
		answers(t, what+", power off", k, d, x, api.ErrDown, 0)
	}
}

// fits asks that x is taken in by a sink that stands where wrongNotes begins, and what becomes of the requests.
func fits(t *testing.T, what string, x api.Item, want ...api.Req) {
	t.Helper()
	k, d := sinkAheadOfWrong(t)
	stood := d.Ops()
	same(t, what+": the answer", k.Commit(x), api.OK)
	same(t, what+": Lsn", k.Lsn(), x.Lsn)
	same(t, what+": Batches", k.Batches(), 3)
	same(t, what+": operations", d.Ops()-stood, 2)
	same(t, what+": the requests", reqsOf(k.Reqs()), reqsOf(want))
	same(t, what+": opened anew", told(opened(t, d, 2)), told(k))
}

// TestCommitOfWhatFits: the neighbours of what does not.
func TestCommitOfWhatFits(t *testing.T) {
	one := api.Req{ID: 1, Weight: 1, At: 2, Cursor: 5, Chunks: 1}
	two := api.Req{ID: 2, Table: 1, Weight: 1, At: 3, Cursor: 1, Chunks: 1, Done: true}
	three := api.Req{ID: 3, Table: 1, Weight: 1, At: 3}
	at := func(r api.Req, cursor int64, chunks int, done bool) api.Req {
		r.Cursor, r.Chunks, r.Done = cursor, chunks, done
		return r
	}
	fits(t, "nothing", item(5, nil), one, two)
	fits(t, "nothing, far away", item(api.MaxLsn, nil), one, two)
	fits(t, "an op of the last table", item(5, ops(put(5, 1, 1, "a"), gone(1, 0, 7))), one, two)
	fits(t, "the next one", item(5, nil, accept(3, 1, 1, 3)), one, two, three)
	fits(t, "the next one, of another table", item(9, nil, accept(3, 7, 8, 9)), one, two, api.Req{ID: 3, Table: 7, Weight: 8, At: 9})
	fits(t, "two of one At", item(5, nil, accept(3, 1, 1, 3), accept(4, 2, 1, 3)), one, two, three, api.Req{ID: 4, Table: 2, Weight: 1, At: 3})
	fits(t, "the same Cursor", item(5, nil, chunk(1, 5, false)), at(one, 5, 2, false), two)
	fits(t, "the same Cursor, and done", item(5, nil, chunk(1, 5, true)), at(one, 5, 2, true), two)
	fits(t, "the last Cursor", item(5, nil, chunk(1, api.MaxKey, false)), at(one, api.MaxKey, 2, false), two)
	fits(t, "accepted, and a chunk of it", item(5, nil, accept(3, 1, 1, 3), chunk(3, 0, false)), one, two, at(three, 0, 1, false))
	fits(t, "a table twice, the first one done", item(5, nil, chunk(1, 6, true), accept(3, 0, 1, 3)), at(one, 6, 2, true), two, api.Req{ID: 3, Weight: 1, At: 3})
	fits(t, "several of both", item(5, nil, chunk(1, 6, false), accept(3, 1, 1, 3), chunk(3, 2, true), chunk(1, 7, true)), at(one, 7, 3, true), two, at(three, 2, 1, true))
	fits(t, "as many as there may be", item(5, nil, slices.Repeat([]api.Note{chunk(1, 5, false)}, api.MaxNotes)...), at(one, 5, 1+api.MaxNotes, false), two)
}

// TestCommitOfMaxReqs: as many requests as there may be, in one item and in many, and no one more.
func TestCommitOfMaxReqs(t *testing.T) {
	var notes []api.Note
	for i := range api.MaxReqs {
		notes = append(notes, accept(i+1, i%3, i%8+1, int64(i/2)+1), chunk(i+1, int64(i), true))
	}
	one, d := filled(t, []api.Item{item(api.MaxReqs, nil, notes...)})
	many, other := filled(t, nil)
	for i := range api.MaxReqs {
		same(t, "requests", len(many.Reqs()), i)
		commits(t, many, item(int64(i)+1, nil, notes[2*i:2*i+2]...))
	}
	same(t, "in many", reqsOf(many.Reqs()), reqsOf(one.Reqs()))
	same(t, "the last one", one.Reqs()[63], api.Req{ID: 64, Table: 0, Weight: 8, At: 32, Cursor: 63, Chunks: 1, Done: true})
	for _, id := range []int{1, 63, 64, 65} {
		refuses(t, "one more, of one", one, d, item(99, nil, accept(id, 5, 1, 99)))
		refuses(t, "one more, of many", many, other, item(99, nil, accept(id, 5, 1, 99)))
		refuses(t, "a chunk of a done one", one, d, item(99, nil, chunk(id, 99, true)))
	}
	same(t, "opened anew", told(opened(t, d, 2)), told(one))
	same(t, "opened anew, of many", told(opened(t, other, 2)), told(many))
	k, d := filled(t, []api.Item{item(64, nil, notes[:126]...)})
	refuses(t, "two more", k, d, item(99, nil, accept(64, 5, 1, 99), accept(65, 6, 1, 99)))
	refuses(t, "two more of one ID", k, d, item(99, nil, accept(64, 5, 1, 99), accept(64, 6, 1, 99)))
	commits(t, k, item(99, nil, accept(64, 5, 1, 99)))
	same(t, "the last one", k.Reqs()[63], api.Req{ID: 64, Table: 5, Weight: 1, At: 99})
}

// TestCommitOfManyOps: as many as there may be, of the longest Vals, in segments of few bytes.
func TestCommitOfManyOps(t *testing.T) {
	x := item(api.MaxLsn, nil)
	var want []api.Cell
	for i := range api.MaxOps {
		val := strings.Repeat(string(rune('a'+i%26)), api.MaxVal)
		x.Ops = append(x.Ops, put(api.MaxLsn-int64(i), 1, int64(api.MaxOps-i), val))
		want = append(want, api.Cell{Key: int64(api.MaxOps - i), Lsn: api.MaxLsn - int64(i), Val: val})
	}
	slices.Reverse(want)
	k, d := filled(t, []api.Item{puts(1), x})
	for what, k := range map[string]*Sink{"it": k, "opened anew": opened(t, d, 2)} {
		same(t, what, fmt.Sprint(k.Lsn(), k.Batches(), len(k.Rows(1)), len(k.Rows(0))), fmt.Sprint(int64(api.MaxLsn), 2, api.MaxOps, 1))
		same(t, what+": its cells", cellsOf(k.Cells(1)), cellsOf(want))
	}
	answers(t, "the last Lsn again", k, d, item(api.MaxLsn, nil), api.OK, 0)
}

// TestOpsOfElderLsns: an op plays no part, where the row is from a later transaction; one of the same Lsn does.
func TestOpsOfElderLsns(t *testing.T) {
	k, d := filled(t, []api.Item{item(9, ops(put(7, 1, 1, "a"), put(6, 1, 2, "b"), gone(8, 1, 3)))})
	commits(t, k, item(10, ops(put(6, 1, 1, "x"), put(6, 1, 2, "same"), put(7, 1, 3, "x"), gone(6, 1, 1), put(8, 1, 4, "c"), gone(9, 1, 4))))
	want := cells(api.Cell{Key: 1, Lsn: 7, Val: "a"}, api.Cell{Key: 2, Lsn: 6, Val: "same"}, api.Cell{Key: 3, Lsn: 8, Gone: true}, api.Cell{Key: 4, Lsn: 9, Gone: true})
	same(t, "the cells", told(k), tells(content{lsn: 10, batches: 2, tables: tables(nil, want)}))
	found(t, "opened anew", d, 2, told(k))
}

// TestCommitOfOld: what has an Lsn that is not above Lsn changes nothing, and no operation is done.
func TestCommitOfOld(t *testing.T) {
	k, d := filled(t, some())
	for _, lsn := range []int64{9, 8, 4, 3, 2, 1} {
		for what, x := range map[string]api.Item{
			"nothing":   item(lsn, nil),
			"ops":       item(lsn, ops(put(lsn, 0, 1, "z"), gone(lsn, 1, 6))),
			"notes":     item(lsn, nil, accept(4, 0, 1, 1), chunk(3, 9, true)),
			"both":      item(lsn, ops(put(lsn, 0, 1, "z")), chunk(3, 9, false)),
			"the first": some()[0],
			"the last":  some()[2],
		} {
			answers(t, fmt.Sprint(what, ", Lsn ", lsn), k, d, x, api.OK, 0)
			d.Arm(1)
			answers(t, fmt.Sprint(what, ", armed, Lsn ", lsn), k, d, x, api.OK, 0)
			d.Arm(0)
		}
	}
	commits(t, k, item(10, nil))
	full := fullOf(t, some()...)
	answers(t, "a full log", opened(t, full, 2), full, some()[2], api.OK, 0)
}

// TestCommitWithPowerOff: behind ErrArg, and ahead of all else.
func TestCommitWithPowerOff(t *testing.T) {
	for _, l := range [][]api.Item{nil, some()} {
		for _, faults := range [][]api.Fault{nil, {refuse}, {tear(3), lost}, {lost, refuse}} {
			k, d := filled(t, l, faults...)
			powerGoes(d)
			for _, x := range []api.Item{item(1, nil), item(9, nil), item(10, nil), item(api.MaxLsn, ops(put(10, 1, 1, "a")))} {
				answers(t, "power is off", k, d, x, api.ErrDown, 0)
			}
			refuses(t, "what may not be", k, d, item(0, nil))
			refuses(t, "what does not fit", k, d, item(99, nil, chunk(64, 1, true)))
		}
	}
	d := fullOf(t, some()...)
	k := opened(t, d, 2)
	powerGoes(d)
	answers(t, "a full log", k, d, item(10, nil), api.ErrDown, 0)
}

// TestCommitToAFullLog: ErrFull, and nothing.
func TestCommitToAFullLog(t *testing.T) {
	d := fullOf(t, some()...)
	k := opened(t, d, 2)
	for _, lsn := range []int64{10, 99, api.MaxLsn} {
		answers(t, "no file more", k, d, item(lsn, ops(put(lsn, 1, 1, "a")), chunk(3, 9, false)), api.ErrFull, 0)
		d.Arm(1)
		answers(t, "no file more, armed", k, d, item(lsn, nil), api.ErrFull, 0)
		d.Arm(0)
		refuses(t, "what does not fit", k, d, item(lsn, nil, chunk(3, 1, false)))
	}
	d = diskOf(part(api.MaxLsn))
	k = opened(t, d, 2)
	commits(t, k, puts(5))
	answers(t, "no number more", k, d, puts(6), api.ErrFull, 0)
	answers(t, "and the same again", k, d, puts(5), api.OK, 0)
	d = disk.New()
	lay(d, lastFile, part(1))
	k = opened(t, d, 2)
	commits(t, k, puts(5))
	answers(t, "no file more behind that", k, d, puts(6), api.ErrFull, 0)
}

// stand is a sink behind the first n of some, with these faults, in files of at most so many bytes.
func stand(t *testing.T, n, segment int, faults ...api.Fault) func() (*Sink, *disk.Disk) {
	t.Helper()
	return func() (*Sink, *disk.Disk) {
		t.Helper()
		d := disk.New()
		k, e := Open(d, 2, segment)
		if e != api.OK {
			t.Fatalf("Open: got %d", e)
		}
		commits(t, k, some()[:n]...)
		plans(t, k, faults...)
		return k, d
	}
}

// TestOperationsOfCommit: one Append of all, one Sync, with a head ahead in a file that begins.
func TestOperationsOfCommit(t *testing.T) {
	for n, x := range some() {
		f := api.SinkBase
		all := part(1, laid(t, x))
		if n > 0 {
			all = record(laid(t, x))
		}
		does(t, fmt.Sprint("one file, item ", n), stand(t, n, 65536), x, api.OK, tells(behindSome(n+1)), lays(f, all), syncs(f))
		f = api.SinkBase + n
		all = part(int64(n)+1, laid(t, x))
		does(t, fmt.Sprint("one a file, item ", n), stand(t, n, size), x, api.OK, tells(behindSome(n+1)), lays(f, all), syncs(f))
	}
	does(t, "what is there already", stand(t, 3, size), some()[2], api.OK, tells(behindSome(3)))
}

// TestCommitBehindPower: behind power that went at a Commit the plan goes on where it was.
func TestCommitBehindPower(t *testing.T) {
	k, d := filled(t, some()[:1], lost, refuse, tear(5))
	d.Arm(1)
	same(t, "power goes", k.Commit(some()[1]), api.ErrDown)
	same(t, "one is used up", k.Plan().Len(), 2)
	answers(t, "power is off", k, d, some()[1], api.ErrDown, 0)
	d.Crash()
	k = opened(t, d, 2)
	same(t, "opened anew", told(k), tells(behindSome(1)))
	commits(t, k, some()[1:]...)
	same(t, "behind it", told(k), tells(behindSome(3)))
}
