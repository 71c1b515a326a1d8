package fold

import (
	"math"
	"strconv"
	"testing"

	"qanat/api"
)

func TestExample(t *testing.T) {
	l := each(put(0, 5, "a"), gone(0, 5))
	folded(t, "the example", 1, l, 1, rows(row(5, "a")))
	folded(t, "the example", 1, l, 2, nil)
}

// TestFoldOfNoTables: none of n that may not be, whatever else there is.
func TestFoldOfNoTables(t *testing.T) {
	for _, n := range []int{math.MinInt, -api.MaxTables, -2, -1, 0, api.MaxTables + 1, api.MaxTables + 2, 1 << 32, 1<<32 + 1, math.MaxInt} {
		for _, k := range []int{-1, 0, 1, 2} {
			folded(t, "of n tables: "+strconv.Itoa(n), n, each(put(0, 1, "a"), put(1, 1, "b")), k)
			folded(t, "of n tables: "+strconv.Itoa(n), n, nil, k)
		}
	}
}

// TestFoldOfEachNumberOfTables: just so many are there, and each has the changes of its own.
func TestFoldOfEachNumberOfTables(t *testing.T) {
	var l []api.Txn
	for i := -2; i < api.MaxTables+2; i++ {
		l = append(l, client(put(i, int64(i), "a"), put(i, 50, strconv.Itoa(i))))
	}
	for n := 1; n <= api.MaxTables; n++ {
		want := make([][]api.Row, n)
		folded(t, "of so many tables", n, l, 0, want...)
		folded(t, "of so many tables", n, nil, 7, want...)
		for i := range want {
			want[i] = rows(row(int64(i), "a"), row(50, strconv.Itoa(i)))
		}
		folded(t, "of so many tables", n, l, len(l), want...)
	}
}

func TestFoldOfNoTransactions(t *testing.T) {
	for _, k := range []int{math.MinInt, -1, 0, 1, math.MaxInt} {
		folded(t, "of nil", 2, nil, k, nil, nil)
		folded(t, "of an empty list", 1, []api.Txn{}, k, nil)
		folded(t, "of a transaction without changes", 2, []api.Txn{{Lsn: 1, Kind: api.TxnClient, Signals: []string{"snapshot 1"}}}, k, nil, nil)
	}
}

// TestFoldHoldsK: from 0 to the number of transactions.
func TestFoldHoldsK(t *testing.T) {
	l := each(put(0, 5, "a"), put(1, 7, "b"), put(0, 5, "c"))
	for _, k := range []int{math.MinInt, math.MinInt + 1, -1 << 32, -3, -1, 0} {
		folded(t, "below and at 0", 2, l, k, nil, nil)
	}
	folded(t, "in between", 2, l, 1, rows(row(5, "a")), nil)
	folded(t, "in between", 2, l, 2, rows(row(5, "a")), rows(row(7, "b")))
	for _, k := range []int{3, 4, 5, 1 << 32, 1<<32 + 1, math.MaxInt - 1, math.MaxInt} {
		folded(t, "all and above", 2, l, k, rows(row(5, "c")), rows(row(7, "b")))
	}
}

// TestFoldOfOneKey goes through all that may become of one row, a transaction for each change, and all in one.
func TestFoldOfOneKey(t *testing.T) {
	for _, c := range []struct {
		what string
		l    []api.Change
		want []api.Row
	}{
		{"put", []api.Change{put(0, 5, "a")}, rows(row(5, "a"))},
		{"put with an empty val", []api.Change{put(0, 5, "")}, rows(row(5, ""))},
		{"put once more", []api.Change{put(0, 5, "a"), put(0, 5, "b")}, rows(row(5, "b"))},
		{"put once more, the same", []api.Change{put(0, 5, "a"), put(0, 5, "a")}, rows(row(5, "a"))},
		{"put once more, with an empty val", []api.Change{put(0, 5, "a"), put(0, 5, "")}, rows(row(5, ""))},
		{"taken away", []api.Change{put(0, 5, "a"), gone(0, 5)}, nil},
		{"taken away, not there", []api.Change{gone(0, 5)}, nil},
		{"taken away, not there, and put", []api.Change{gone(0, 5), put(0, 5, "a")}, rows(row(5, "a"))},
		{"taken away, and put", []api.Change{put(0, 5, "a"), gone(0, 5), put(0, 5, "b")}, rows(row(5, "b"))},
		{"taken away twice", []api.Change{put(0, 5, "a"), gone(0, 5), gone(0, 5)}, nil},
		{"taken away, put, taken away", []api.Change{put(0, 5, "a"), gone(0, 5), put(0, 5, "b"), gone(0, 5)}, nil},
		{"taken away, with a val", []api.Change{put(0, 5, "a"), {Key: 5, Gone: true, Val: "b"}}, nil},
		{"another key taken away", []api.Change{put(0, 5, "a"), gone(0, 4), gone(0, 6)}, rows(row(5, "a"))},
		{"the key of another table taken away", []api.Change{put(0, 5, "a"), gone(1, 5), gone(-1, 5), gone(9, 5)}, rows(row(5, "a"))},
		{"the key of another table put", []api.Change{put(0, 5, "a"), put(-1, 5, "b"), put(9, 5, "c")}, rows(row(5, "a"))},
	} {
		folded(t, c.what, 2, each(c.l...), len(c.l), c.want, nil)
		folded(t, c.what+", in one", 2, []api.Txn{client(c.l...)}, 1, c.want, nil)
		folded(t, c.what+", ahead of it", 2, []api.Txn{client(c.l...)}, 0, nil, nil)
	}
}

// TestFoldOfSeveralTables: what becomes of one table is nothing to another one.
func TestFoldOfSeveralTables(t *testing.T) {
	l := []api.Txn{
		client(put(2, 1, "a"), put(0, 1, "b"), put(2, 3, "c")),
		client(gone(2, 1), gone(0, 3), put(0, 3, "d")),
		client(gone(0, 1), put(2, 3, "e"), put(2, 0, "f")),
	}
	folded(t, "of several tables", 3, l, 1, rows(row(1, "b")), nil, rows(row(1, "a"), row(3, "c")))
	folded(t, "of several tables", 3, l, 2, rows(row(1, "b"), row(3, "d")), nil, rows(row(3, "c")))
	folded(t, "of several tables", 3, l, 3, rows(row(3, "d")), nil, rows(row(0, "f"), row(3, "e")))
	folded(t, "of fewer tables", 2, l, 3, rows(row(3, "d")), nil)
	folded(t, "of more tables", 4, l, 3, rows(row(3, "d")), nil, rows(row(0, "f"), row(3, "e")), nil)
}

// TestFoldOfOtherTables: changes of tables that are none of the n play no part, wherever they stand.
func TestFoldOfOtherTables(t *testing.T) {
	for _, n := range []int{1, 2, api.MaxTables} {
		want := make([][]api.Row, n)
		want[0] = rows(row(1, "a"), row(2, "c"))
		for _, other := range noTables(n) {
			l := []api.Txn{
				client(put(other, 1, "x")),
				client(put(other, 1, "x"), put(0, 1, "a"), gone(other, 1), put(0, 2, "b"), put(other, 2, "y")),
				client(put(0, 2, "c"), gone(other, 2), gone(other, 1)),
				client(put(other, 3, "z")),
			}
			folded(t, "with changes of table "+strconv.Itoa(other), n, l, len(l), want...)
		}
	}
}

// TestFoldRises: keys rise, whatever they are and in whatever order they came.
func TestFoldRises(t *testing.T) {
	want := rows(row(math.MinInt64, "a"), row(-256, "b"), row(-1, "c"), row(0, "d"), row(1, "e"), row(2, "f"), row(10, "g"), row(1<<32, "h"), row(api.MaxKey, "i"), row(api.MaxKey+1, "j"), row(math.MaxInt64, "k"))
	c := choice(11)
	for range 50 {
		order := make([]int, len(want))
		for i := range order {
			at := c.below(i + 1)
			order[i], order[at] = order[at], i
		}
		var l []api.Change
		for _, at := range order {
			l = append(l, put(0, want[at].Key, want[at].Val))
		}
		folded(t, "in any order", 1, each(l...), len(l), want)
		folded(t, "in any order, in one", 1, []api.Txn{client(l...)}, 1, want)
	}
}

// TestFoldOfEachKind: of a transaction its changes alone count.
func TestFoldOfEachKind(t *testing.T) {
	for _, kind := range []int{math.MinInt, -1, 0, api.TxnClient, api.TxnLow, api.TxnHigh, api.TxnHigh + 1, 77, math.MaxInt} {
		for _, lsn := range []int64{math.MinInt64, -1, 0, 1, 2, 3, api.MaxLsn + 1, math.MaxInt64} {
			l := []api.Txn{
				client(put(0, 5, "a"), put(0, 7, "b")),
				{Lsn: lsn, Kind: kind, Mark: lsn, Signals: []string{"snapshot 0", "s", "s"}, Changes: []api.Change{put(0, 5, "c"), gone(0, 7), put(0, 6, "d")}},
				client(put(0, 8, "e")),
			}
			what := "of Kind " + strconv.Itoa(kind) + ", Lsn " + strconv.FormatInt(lsn, 10)
			folded(t, what, 1, l, 1, rows(row(5, "a"), row(7, "b")))
			folded(t, what, 1, l, 2, rows(row(5, "c"), row(6, "d")))
			folded(t, what, 1, l, 3, rows(row(5, "c"), row(6, "d"), row(8, "e")))
			there(t, what, l, 2, 0, 5, "c")
			notThere(t, what, l, 2, 0, 7)
			between(t, what, l, 2, 2, 0, row(6, "d"), true)
			between(t, what, l, 2, 3, 0, row(7, "b"), false)
		}
	}
}

// TestFoldOfMany: more rows, changes and transactions than a source may have, and in a time that does not grow with their product.
func TestFoldOfMany(t *testing.T) {
	const n = 1 << 17
	l := make([]api.Txn, n)
	want := make([]api.Row, n)
	for i := range l {
		l[n-1-i] = client(put(1, int64(i), "v"), put(0, 1, strconv.Itoa(i)))
		want[i] = row(int64(i), "v")
	}
	got := Fold(2, l, n)
	if len(got) != 2 || len(got[1]) != n {
		t.Fatalf("of many: got %d tables, the last of which has not %d rows", len(got), n)
	}
	tablesAre(t, "of many", got, rows(row(1, "0")), want)
	folded(t, "of one with many", 1, []api.Txn{client(l[0].Changes...), client(put(0, 2, "a"))}, 2, rows(row(1, strconv.Itoa(n-1)), row(2, "a")))
	between(t, "of many", l, 0, n, 0, row(1, "0"), true)
	between(t, "of many", l, 0, n-1, 0, row(1, "0"), false)
}
