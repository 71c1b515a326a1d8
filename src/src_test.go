package src

import (
	"fmt"
	"math"
	"slices"
	"strings"
	"testing"

	"qanat/api"
	"qanat/disk"
)

func TestExample(t *testing.T) {
	d := disk.New()
	s := opened(t, d, 1)
	lsn, e := s.Commit(nil, put(0, 5, "a"))
	same(t, "Commit", fmt.Sprint(lsn, e), "1 0")
	same(t, "Trim", s.Trim(1), api.OK)
	same(t, "Image", s.Image(), 1)
}

// TestCommit: each transaction has the next number, and its changes are done, in their order.
func TestCommit(t *testing.T) {
	d := disk.New()
	s := opened(t, d, 3)
	same(t, "a new source", told(s), tells(1, 0, nil, nil, nil, nil))
	all := []api.Txn{
		{Lsn: 1, Kind: api.TxnClient, Changes: []api.Change{put(0, 5, "a"), put(2, 3, "b"), put(2, 1, "")}},
		{Lsn: 2, Kind: api.TxnClient},
		{Lsn: 3, Kind: api.TxnLow, Mark: 3},
		{Lsn: 4, Kind: api.TxnClient, Changes: []api.Change{put(2, 3, "c"), gone(0, 5), gone(0, 6)}, Signals: []string{"snapshot 1", ""}},
		{Lsn: 5, Kind: api.TxnHigh, Mark: api.MaxLsn},
		{Lsn: 6, Kind: api.TxnClient, Changes: []api.Change{put(1, 1, "x"), gone(1, 1), put(1, 1, "y"), put(0, 9, "p"), put(0, 9, "q")}},
	}
	tables := [][][]api.Row{
		{rows(row(5, "a")), nil, rows(row(1, ""), row(3, "b"))},
		{rows(row(5, "a")), nil, rows(row(1, ""), row(3, "b"))},
		{rows(row(5, "a")), nil, rows(row(1, ""), row(3, "b"))},
		{nil, nil, rows(row(1, ""), row(3, "c"))},
		{nil, nil, rows(row(1, ""), row(3, "c"))},
		{rows(row(9, "q")), rows(row(1, "y")), rows(row(1, ""), row(3, "c"))},
	}
	for i, x := range all {
		lsn, e := adds(s, x)
		same(t, "its number", fmt.Sprint(lsn, e), fmt.Sprint(i+1, api.OK))
		same(t, "the source", told(s), tells(1, 0, all[:i+1], tables[i]...))
		same(t, "opened anew", told(opened(t, d, 3)), told(s))
	}
	powerGoes(d)
	same(t, "with power off", told(s), tells(1, 0, all, tables[5]...))
}

// adds commits x, or marks it, whatever its Lsn.
func adds(s *Source, x api.Txn) (int64, api.Errno) {
	if x.Kind == api.TxnClient {
		return s.Commit(x.Signals, x.Changes...)
	}
	return s.Mark(x.Kind, x.Mark)
}

// TestTheLogHasTheTransactions: the log of wal at SourceBase, in files of at most size bytes.
func TestTheLogHasTheTransactions(t *testing.T) {
	d := disk.New()
	s, e := Open(d, 2, 256)
	if e != api.OK {
		t.Fatalf("Open: %d", e)
	}
	one := api.Txn{Lsn: 1, Kind: api.TxnClient, Changes: []api.Change{put(1, 5, "a")}, Signals: []string{"snapshot 1"}}
	two := api.Txn{Lsn: 2, Kind: api.TxnHigh, Mark: 7}
	three := client(3, puts(0, 1, 16)...)
	for _, x := range []api.Txn{one, two, three} {
		adds(s, x)
	}
	want := diskOf(part(1, laid(t, one), laid(t, two)), part(3, laid(t, three)))
	want.Append(api.SourceBase, nil)
	want.Sync(api.SourceBase) // three transactions, each of two operations
	same(t, "the disk", state(d), state(want))
}

func TestTheMostAndOneMore(t *testing.T) {
	d := disk.New()
	s := opened(t, d, api.MaxTables)
	val, signal := strings.Repeat("v", api.MaxVal), strings.Repeat("s", api.MaxSignal)
	var l []api.Change
	for i := range api.MaxChanges {
		l = append(l, put(i%api.MaxTables, api.MaxKey-int64(i), val))
	}
	signals := []string{signal, signal}
	refuses(t, "one change more", s, d, api.ErrArg, commit(signals, append(l, put(0, 1, ""))...))
	refuses(t, "one signal more", s, d, api.ErrArg, commit(append(signals, ""), l...))
	refuses(t, "a longer signal", s, d, api.ErrArg, commit([]string{"", signal + "s"}, l...))
	lsn, e := s.Commit(signals, l...)
	same(t, "as many as may be", fmt.Sprint(lsn, e), "1 0")
	x, e := s.Read(1)
	same(t, "as many as may be", some(x), some(api.Txn{Lsn: 1, Kind: api.TxnClient, Changes: l, Signals: signals}))
	same(t, "opened anew", told(opened(t, d, api.MaxTables)), told(s))
}

// wrongChanges is changes that no transaction of n tables has.
func wrongChanges(n int) map[string]api.Change {
	l := map[string]api.Change{
		"key 0":                 put(0, 0, ""),
		"a key below 0":         put(0, -1, ""),
		"the least key":         put(0, math.MinInt64, ""),
		"a key above MaxKey":    put(0, api.MaxKey+1, ""),
		"the greatest key":      put(0, math.MaxInt64, ""),
		"gone of key 0":         gone(0, 0),
		"a val that is longer":  put(0, 1, strings.Repeat("v", api.MaxVal+1)),
		"gone with a val":       {Table: 0, Key: 1, Gone: true, Val: "x"},
		"gone of no such table": gone(n, 1),
	}
	for _, table := range []int{math.MinInt, -1, n, n + 1, api.MaxTables, api.MaxTables + 1, math.MaxInt} {
		l[fmt.Sprint("table ", table)] = put(table, 1, "a")
	}
	return l
}

func TestCommitOfWhatMayNotBe(t *testing.T) {
	for _, n := range []int{1, 2, api.MaxTables - 1, api.MaxTables} {
		d := disk.New()
		s := opened(t, d, n)
		commits(t, s, put(n-1, 1, "a"))
		for range 2 {
			for what, c := range wrongChanges(n) {
				refuses(t, what, s, d, api.ErrArg, commit(nil, c))
				refuses(t, what+", behind another one", s, d, api.ErrArg, commit([]string{"s"}, put(0, 7, "b"), c))
				refuses(t, what+", ahead of another one", s, d, api.ErrArg, commit(nil, c, put(0, 7, "b")))
			}
			refuses(t, "many changes", s, d, api.ErrArg, commit(nil, puts(0, 1, 5000)...))
			refuses(t, "three signals", s, d, api.ErrArg, commit([]string{"", "", ""}))
			refuses(t, "a long signal", s, d, api.ErrArg, commit([]string{strings.Repeat("s", 41)}))
			powerGoes(d) // ErrArg counts ahead of ErrDown
		}
	}
}

func TestMarks(t *testing.T) {
	for _, n := range []int{1, api.MaxTables} {
		d := disk.New()
		s := opened(t, d, n)
		commits(t, s, put(0, 1, "a"))
		var all []api.Txn
		for _, k := range []int{api.TxnLow, api.TxnHigh} {
			for _, m := range []int64{1, 2, 99, api.MaxLsn - 1, api.MaxLsn} {
				lsn, e := s.Mark(k, m)
				x := api.Txn{Lsn: int64(len(all)) + 2, Kind: k, Mark: m}
				all = append(all, x)
				same(t, "Mark", fmt.Sprint(lsn, e), fmt.Sprint(x.Lsn, api.OK))
			}
		}
		tables := make([][]api.Row, n)
		tables[0] = rows(row(1, "a"))
		want := tells(1, 0, append([]api.Txn{client(1, put(0, 1, "a"))}, all...), tables...)
		same(t, "marks", told(s), want)
		same(t, "opened anew", told(opened(t, d, n)), want)
		for range 2 {
			for _, k := range []int{api.TxnLow, api.TxnHigh} {
				for _, m := range []int64{math.MinInt64, -1, 0, api.MaxLsn + 1, math.MaxInt64} {
					refuses(t, fmt.Sprint("mark ", m), s, d, api.ErrArg, mark(k, m))
				}
			}
			for _, k := range []int{math.MinInt, -1, 0, api.TxnClient, 4, 5, math.MaxInt} {
				for _, m := range []int64{0, 1, 5} {
					refuses(t, fmt.Sprint("kind ", k), s, d, api.ErrArg, mark(k, m))
				}
			}
			powerGoes(d)
		}
	}
}

func TestWithPowerOff(t *testing.T) {
	d := disk.New()
	s := opened(t, d, 1)
	fills(t, s, 0, api.MaxRows)
	powerGoes(d)
	refuses(t, "Commit", s, d, api.ErrDown, commit(nil, put(0, 1, "b")))
	refuses(t, "Commit of nothing", s, d, api.ErrDown, commit(nil))
	refuses(t, "Commit of what does not fit", s, d, api.ErrDown, commit(nil, put(0, 5000, "b")))
	for _, k := range []int{api.TxnLow, api.TxnHigh} {
		refuses(t, "Mark", s, d, api.ErrDown, mark(k, 1))
	}
	for _, lsn := range []int64{0, 1, s.Head()} {
		refuses(t, "Trim", s, d, api.ErrDown, trim(lsn))
	}
	for _, lsn := range []int64{math.MinInt64, -1, s.Head() + 1, math.MaxInt64} {
		refuses(t, "Trim of no number", s, d, api.ErrArg, trim(lsn))
	}
}

// TestCommitOfWhatDoesNotFit: no table has more than MaxRows rows behind any transaction.
func TestCommitOfWhatDoesNotFit(t *testing.T) {
	d := disk.New()
	s := opened(t, d, 2)
	fills(t, s, 1, api.MaxRows-1)
	refuses(t, "two more", s, d, api.ErrFull, commit(nil, put(0, 1, "a"), put(1, 2000, ""), put(1, 2001, "")))
	commits(t, s, put(1, 2000, "the last"))
	refuses(t, "one more", s, d, api.ErrFull, commit(nil, put(1, 2001, "")))
	refuses(t, "one more, with others", s, d, api.ErrFull, commit([]string{"s"}, put(0, 1, "a"), put(1, 1, "b"), put(1, 2001, "")))
	refuses(t, "one that was there is none more", s, d, api.ErrFull, commit(nil, gone(1, 3000), put(1, 2001, "")))
	same(t, "as many as may be", len(s.Rows(1)), api.MaxRows)
	commits(t, s, put(1, 1, "another val"))
	commits(t, s, put(1, 2001, ""), gone(1, 1))
	commits(t, s, gone(1, 2), put(1, 2002, ""), put(0, 1, "another table"))
	commits(t, s)
	if lsn, e := s.Mark(api.TxnLow, 1); lsn != s.Head() || e != api.OK {
		t.Errorf("Mark, where a table is full: got %d, %d", lsn, e)
	}
	same(t, "as many as may be", len(s.Rows(1)), api.MaxRows)
	same(t, "opened anew", told(opened(t, d, 2)), told(s))
	trims(t, s, s.Head())
	same(t, "opened anew, by the image", told(opened(t, d, 2)), told(s))
}

// TestWithoutANumberLeft: the log's ErrFull, though no transaction may have the number that would come.
func TestWithoutANumberLeft(t *testing.T) {
	before := func() (*Source, *disk.Disk) {
		d := logOf(t, api.MaxLsn-1, client(api.MaxLsn-1, put(0, 1, "a")))
		lay(d, imageB, picture(t, api.MaxLsn-2, nil))
		return opened(t, d, 1), d
	}
	for what, do := range map[string]call{"Commit": commit(nil), "Commit of changes": commit(nil, put(0, 2, "")), "Mark": mark(api.TxnLow, 1)} {
		s, d := before()
		lsn, e := do(s)
		same(t, what+": the last number", fmt.Sprint(lsn, e, s.Head()), fmt.Sprint(api.MaxLsn, api.OK, api.MaxLsn))
		refuses(t, what+": none more", s, d, api.ErrFull, do)
		refuses(t, what+": what may not be", s, d, api.ErrArg, commit(nil, put(0, 0, "")))
		trims(t, s, api.MaxLsn)
		same(t, what+": Image", s.Image(), api.MaxLsn)
		refuses(t, what+": none behind a Trim", s, d, api.ErrFull, do)
		same(t, what+": opened anew", told(opened(t, d, 1)), told(s))
		powerGoes(d)
		refuses(t, what+": power off", s, d, api.ErrDown, do)
	}
}

// TestWithoutAFileLeft: the log's ErrFull, too.
func TestWithoutAFileLeft(t *testing.T) {
	d := disk.New()
	lay(d, api.SourceBase+api.MaxSegs-1, part(1, laid(t, client(1, put(0, 1, "a")))))
	s := opened(t, d, 1)
	refuses(t, "Commit", s, d, api.ErrFull, commit(nil))
	refuses(t, "Commit of changes", s, d, api.ErrFull, commit(nil, put(0, 1, "b"), put(0, 2, "")))
	refuses(t, "Mark", s, d, api.ErrFull, mark(api.TxnHigh, 1))
	same(t, "opened anew", told(opened(t, d, 1)), told(s))
}

// TestPowerGoesAtACommit: nothing is applied, wherever it goes.
func TestPowerGoesAtACommit(t *testing.T) {
	one := client(1, put(0, 1, "a"), put(1, 2, "b"))
	before := func() (*Source, *disk.Disk) {
		d := disk.New()
		s := opened(t, d, 2)
		commits(t, s, one.Changes...)
		return s, d
	}
	tables := [][]api.Row{rows(row(1, "a")), rows(row(2, "b"))}
	for what, x := range map[string]struct {
		two  api.Txn
		then [][]api.Row
	}{
		"Commit":            {client(2, put(0, 1, "c"), gone(1, 2), put(1, 3, "d")), [][]api.Row{rows(row(1, "c")), rows(row(3, "d"))}},
		"Commit of nothing": {client(2), tables},
		"Mark":              {api.Txn{Lsn: 2, Kind: api.TxnLow, Mark: 9}, tables},
	} {
		after := func(done int) string {
			if done < 2 {
				return tells(1, 0, []api.Txn{one}, tables...)
			}
			return tells(1, 0, []api.Txn{one, x.two}, x.then...)
		}
		do := func(s *Source) (int64, api.Errno) { return adds(s, x.two) }
		const f = api.SourceBase + 1
		does(t, what, before, do, after, lays(f, part(2, laid(t, x.two))), syncs(f))
	}
}

func TestReadOfOtherNumbers(t *testing.T) {
	d := disk.New()
	s := opened(t, d, 1)
	var all []api.Txn
	for i := range int64(4) {
		all = append(all, client(i+1, put(0, i+1, "v")))
		commits(t, s, all[i].Changes...)
	}
	trims(t, s, 2)
	same(t, "Low, Head", fmt.Sprint(s.Low(), s.Head()), "3 4")
	for range 2 {
		for _, lsn := range []int64{math.MinInt64, -1, 0, 1, 2, 5, 6, api.MaxLsn, api.MaxLsn + 1, math.MaxInt64} {
			x, e := s.Read(lsn)
			same(t, fmt.Sprintf("Read(%d)", lsn), some(x)+fmt.Sprint(e), some(api.Txn{})+fmt.Sprint(api.ErrNone))
		}
		for _, lsn := range []int64{3, 4} {
			x, e := s.Read(lsn)
			same(t, fmt.Sprintf("Read(%d)", lsn), some(x)+fmt.Sprint(e), some(all[lsn-1])+fmt.Sprint(api.OK))
		}
		powerGoes(d)
	}
}

func TestChunkAndRows(t *testing.T) {
	d := disk.New()
	s := opened(t, d, 3)
	commits(t, s, put(1, 7, "c"), put(1, 3, "a"), put(2, 4, "z"), put(1, api.MaxKey, "d"), put(1, 5, "b"))
	all := rows(row(3, "a"), row(5, "b"), row(7, "c"), row(api.MaxKey, "d"))
	for range 2 {
		rowsAre(t, "Rows", s.Rows(1), all...)
		rowsAre(t, "Rows of another one", s.Rows(2), row(4, "z"))
		rowsAre(t, "Rows of none", s.Rows(0))
		for _, after := range []int64{math.MinInt64, -1, 0, 2, 3, 4, 5, 6, 7, 8, api.MaxKey - 1, api.MaxKey, math.MaxInt64} {
			above := slices.DeleteFunc(slices.Clone(all), func(r api.Row) bool { return r.Key <= after })
			for _, n := range []int{math.MinInt, -1, 0, 1, 2, 3, 4, 5, math.MaxInt} {
				rowsAre(t, fmt.Sprintf("Chunk(1, %d, %d)", after, n), s.Chunk(1, after, n), above[:min(max(n, 0), len(above))]...)
			}
		}
		for _, i := range []int{math.MinInt, -1, 3, 4, api.MaxTables, math.MaxInt} {
			rowsAre(t, fmt.Sprint("Rows of no table ", i), s.Rows(i))
			rowsAre(t, fmt.Sprint("Chunk of no table ", i), s.Chunk(i, 0, 9))
		}
		same(t, "Tables", s.Tables(), 3)
		powerGoes(d)
	}
}
