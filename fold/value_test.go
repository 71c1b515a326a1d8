package fold

import (
	"math"
	"testing"

	"qanat/api"
)

// life is one row that is put, put once more, taken away and put anew, with others beside it.
func life() []api.Txn {
	return []api.Txn{
		client(put(0, 5, "a"), put(1, 5, "other")),
		client(put(0, 4, "other")),
		client(put(0, 5, "b")),
		client(gone(0, 5)),
		client(gone(0, 5), gone(0, 6)),
		client(put(0, 5, "")),
		client(put(0, 5, "within"), put(0, 5, "c")),
	}
}

func TestValue(t *testing.T) {
	l := life()
	notThere(t, "a row", l, 0, 0, 5)
	there(t, "a row", l, 1, 0, 5, "a")
	there(t, "a row", l, 2, 0, 5, "a")
	there(t, "a row", l, 3, 0, 5, "b")
	notThere(t, "a row", l, 4, 0, 5)
	notThere(t, "a row", l, 5, 0, 5)
	there(t, "a row", l, 6, 0, 5, "")
	there(t, "a row", l, 7, 0, 5, "c")
	there(t, "the row of another table", l, 7, 1, 5, "other")
	there(t, "the row of another key", l, 7, 0, 4, "other")
	for k := range len(l) + 1 {
		for _, key := range []int64{math.MinInt64, -5, -1, 0, 1, 3, 6, 1<<32 + 5, math.MaxInt64} {
			notThere(t, "a row that never was", l, k, 0, key)
		}
		notThere(t, "a row that is in another table alone", l, k, 1, 4)
	}
}

func TestValueHoldsK(t *testing.T) {
	l := life()
	for _, k := range []int{math.MinInt, -1 << 32, -1, 0} {
		notThere(t, "below and at 0", l, k, 0, 5)
	}
	for _, k := range []int{7, 8, 1 << 32, math.MaxInt} {
		there(t, "all and above", l, k, 0, 5, "c")
	}
	for _, k := range []int{math.MinInt, -1, 0, 1, math.MaxInt} {
		notThere(t, "no transactions", nil, k, 0, 5)
		notThere(t, "an empty list", []api.Txn{}, k, 0, 0)
		notThere(t, "a transaction without changes", []api.Txn{{}}, k, 0, 0)
	}
}

// TestValueOfAnyTable: the table is as it was given: what was put there is there, and nothing else is.
func TestValueOfAnyTable(t *testing.T) {
	for _, table := range append(noTables(2), 0, 1, 7) {
		notThere(t, "no such table", life(), 7, table+77, 5)
		l := each(put(table, 5, "a"), put(table+1, 5, "b"), gone(table-1, 5), gone(table, 5))
		there(t, "a table's own", l, 3, table, 5, "a")
		there(t, "a table's own", l, 3, table+1, 5, "b")
		notThere(t, "a table's own", l, 3, table-1, 5)
		notThere(t, "a table's own", l, 4, table, 5)
		between(t, "a table's own", l, 2, 3, table, row(5, "a"), true)
		between(t, "a table's own", l, 4, 4, table, row(5, "a"), false)
		between(t, "a table's own", l, 0, 4, table-1, row(5, "a"), false)
	}
}

func TestValueOfAnyKey(t *testing.T) {
	for _, key := range []int64{math.MinInt64, -1, 0, 1, api.MaxKey, api.MaxKey + 1, math.MaxInt64} {
		l := []api.Txn{client(put(0, key, "a"), put(0, key+1, "b"), put(0, key-1, "c"), put(0, key^1<<32, "d"))}
		there(t, "any key", l, 1, 0, key, "a")
		between(t, "any key", l, 1, 1, 0, row(key, "a"), true)
		between(t, "any key", l, 1, 1, 0, row(key, "b"), false)
	}
}

// TestValueOfGoneWithVal: the val of a change that takes a row away plays no part.
func TestValueOfGoneWithVal(t *testing.T) {
	l := each(api.Change{Key: 5, Gone: true, Val: "z"}, put(0, 5, "a"), api.Change{Key: 5, Gone: true, Val: "z"})
	notThere(t, "Gone with a val", l, 1, 0, 5)
	there(t, "Gone with a val", l, 2, 0, 5, "a")
	notThere(t, "Gone with a val", l, 3, 0, 5)
	between(t, "Gone with a val", l, 0, 3, 0, row(5, "z"), false)
	between(t, "Gone with a val", l, 3, 3, 0, row(5, ""), false)
}

// TestBetween: each row of a life, from each number of transactions to each.
func TestBetween(t *testing.T) {
	l := life()
	for val, ks := range map[string][]int{
		"a": {1, 2}, "b": {3}, "": {6}, "c": {7},
		"within": nil, "other": nil, "z": nil, "A": nil, "aa": nil,
	} {
		for a := range len(l) + 1 {
			for b := range len(l) + 1 {
				want := false
				for _, k := range ks {
					want = want || a <= k && k <= b
				}
				between(t, "a row", l, a, b, 0, row(5, val), want)
			}
		}
		between(t, "no row", l, 0, 7, 0, row(77, val), false)
		between(t, "no table", l, 0, 7, 2, row(5, val), false)
		between(t, "another table", l, 0, 7, 1, row(5, val), val == "other")
	}
}

// TestBetweenAtTheEnds: a row that is there behind one transaction alone, which is the first or the last of those that are asked.
func TestBetweenAtTheEnds(t *testing.T) {
	l := each(put(0, 1, "x"), put(0, 5, "a"), gone(0, 5), put(0, 1, "y"))
	for a := -1; a <= 5; a++ {
		for b := -1; b <= 5; b++ {
			between(t, "behind 2 alone", l, a, b, 0, row(5, "a"), a <= 2 && b >= 2)
			between(t, "behind 1 to 3", l, a, b, 0, row(1, "x"), a <= 3 && b >= 1 && a <= b)
			between(t, "behind all alone", l, a, b, 0, row(1, "y"), b >= 4)
			between(t, "behind none", l, a, b, 0, row(5, "y"), false)
		}
	}
}

// TestBetweenHoldsFirst: both are held, and then asked which of them is above the other.
func TestBetweenHoldsFirst(t *testing.T) {
	l := each(put(0, 5, "a"), put(0, 5, "b"))
	above := []int{2, 3, 4, 1 << 32, math.MaxInt}
	below := []int{0, -1, -2, -1 << 32, math.MinInt}
	for _, a := range above {
		for _, b := range above {
			between(t, "both above", l, a, b, 0, row(5, "b"), true)
			between(t, "both above", l, a, b, 0, row(5, "a"), false)
		}
		for _, b := range append(below, 1) {
			between(t, "a above, b below", l, a, b, 0, row(5, "a"), false)
			between(t, "a above, b below", l, a, b, 0, row(5, "b"), false)
		}
	}
	for _, a := range below {
		for _, b := range above {
			between(t, "all", l, a, b, 0, row(5, "a"), true)
			between(t, "all", l, a, b, 0, row(5, "b"), true)
		}
		for _, b := range below {
			between(t, "both below", l, a, b, 0, row(5, "a"), false)
			between(t, "both below", l, a, b, 0, row(5, ""), false)
		}
		between(t, "up to 1", l, a, 1, 0, row(5, "a"), true)
		between(t, "up to 1", l, a, 1, 0, row(5, "b"), false)
	}
	between(t, "a above b, though the row was there", l, 1, 0, 0, row(5, "a"), false)
	between(t, "a above b, though the row was there", l, 2, 1, 0, row(5, "b"), false)
}

func TestBetweenOfNoTransactions(t *testing.T) {
	for _, a := range []int{math.MinInt, -1, 0, 1, math.MaxInt} {
		for _, b := range []int{math.MinInt, -1, 0, 1, math.MaxInt} {
			between(t, "nil", nil, a, b, 0, row(0, ""), false)
			between(t, "an empty list", []api.Txn{}, a, b, 0, row(5, "a"), false)
			between(t, "no changes", []api.Txn{{Kind: api.TxnLow, Mark: 1}}, a, b, 0, row(0, ""), false)
		}
	}
}
