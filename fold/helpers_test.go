package fold

import (
	"math"
	"slices"
	"strconv"
	"testing"

	"qanat/api"
)

// row is a row of that key and that val.
func row(key int64, val string) api.Row { return api.Row{Key: key, Val: val} }

// rows is a list of rows.
func rows(l ...api.Row) []api.Row { return l }

// put is a change that puts a row.
func put(table int, key int64, val string) api.Change {
	return api.Change{Table: table, Key: key, Val: val}
}

// gone is a change that takes a row away.
func gone(table int, key int64) api.Change {
	return api.Change{Table: table, Key: key, Gone: true}
}

// client is a client's transaction with those changes.
func client(l ...api.Change) api.Txn {
	return api.Txn{Kind: api.TxnClient, Changes: l}
}

// each is transactions with one of those changes each.
func each(l ...api.Change) []api.Txn {
	var ts []api.Txn
	for _, c := range l {
		ts = append(ts, client(c))
	}
	return ts
}

// held is k, if it is from 0 to n, else the end that is nearer.
func held(k, n int) int {
	switch {
	case k < 0:
		return 0
	case k > n:
		return n
	}
	return k
}

// tablesAre holds tables that were answered against those that are asked for.
func tablesAre(t *testing.T, what string, got [][]api.Row, want ...[]api.Row) {
	t.Helper()
	if !slices.EqualFunc(got, want, slices.Equal[[]api.Row]) {
		t.Errorf("%s: got %s, want %s", what, text(got), text(want))
	}
}

// text is tables as a text of plain letters.
func text(tables [][]api.Row) string {
	s := "["
	for _, l := range tables {
		s += "["
		for _, r := range l {
			s += "{" + strconv.FormatInt(r.Key, 10) + " " + strconv.Quote(r.Val) + "}"
		}
		s += "]"
	}
	return s + "]"
}

// folded asks Fold of n tables behind k transactions.
func folded(t *testing.T, what string, n int, l []api.Txn, k int, want ...[]api.Row) {
	t.Helper()
	tablesAre(t, what+", behind "+strconv.Itoa(k), Fold(n, l, k), want...)
}

// there asks Value of a row that is there.
func there(t *testing.T, what string, l []api.Txn, k, table int, key int64, want string) {
	t.Helper()
	if val, ok := Value(l, k, table, key); !ok || val != want {
		t.Errorf("%s, behind %d: Value of %d in table %d: got %q, %v, want %q, true", what, k, key, table, val, ok, want)
	}
}

// notThere asks Value of a row that is not there.
func notThere(t *testing.T, what string, l []api.Txn, k, table int, key int64) {
	t.Helper()
	if val, ok := Value(l, k, table, key); ok || val != "" {
		t.Errorf("%s, behind %d: Value of %d in table %d: got %q, %v, want none", what, k, key, table, val, ok)
	}
}

// between asks Between.
func between(t *testing.T, what string, l []api.Txn, a, b, table int, r api.Row, want bool) {
	t.Helper()
	if got := Between(l, a, b, table, r); got != want {
		t.Errorf("%s, from %d to %d: Between of {%d %q} in table %d: got %v", what, a, b, r.Key, r.Val, table, got)
	}
}

// noTables is numbers that no one of n tables has.
func noTables(n int) []int {
	return []int{math.MinInt, -n - 1, -n, -1, n, n + 1, api.MaxTables, api.MaxTables + 1, 1 << 32, math.MaxInt}
}

// last is the last change of that key in that table among those of the first k transactions, and whether there is one.
func last(l []api.Txn, k, table int, key int64) (api.Change, bool) {
	for i := held(k, len(l)) - 1; i >= 0; i-- {
		changes := l[i].Changes
		for j := len(changes) - 1; j >= 0; j-- {
			if c := changes[j]; c.Table == table && c.Key == key {
				return c, true
			}
		}
	}
	return api.Change{}, false
}

// plainValue is what Value tells.
func plainValue(l []api.Txn, k, table int, key int64) (string, bool) {
	c, ok := last(l, k, table, key)
	if !ok || c.Gone {
		return "", false
	}
	return c.Val, true
}

// plainBetween is what Between tells.
func plainBetween(l []api.Txn, a, b, table int, r api.Row) bool {
	for k := range len(l) + 1 {
		val, ok := plainValue(l, k, table, r.Key)
		if k >= held(a, len(l)) && k <= held(b, len(l)) && ok && val == r.Val {
			return true
		}
	}
	return false
}

// keysOf is each key that a change of l names, rising.
func keysOf(l []api.Txn) []int64 {
	var keys []int64
	for _, x := range l {
		for _, c := range x.Changes {
			keys = append(keys, c.Key)
		}
	}
	slices.Sort(keys)
	return slices.Compact(keys)
}

// plainFold is what Fold tells of n tables that may be.
func plainFold(n int, l []api.Txn, k int) [][]api.Row {
	tables := make([][]api.Row, n)
	for i := range tables {
		for _, key := range keysOf(l) {
			if val, ok := plainValue(l, k, i, key); ok {
				tables[i] = append(tables[i], row(key, val))
			}
		}
	}
	return tables
}

// copied is the same transactions in memory of their own, with the room behind the ends of their lists.
func copied(l []api.Txn) []api.Txn {
	whole := slices.Clone(l[:cap(l)])
	for i, x := range whole {
		whole[i].Changes = slices.Clone(x.Changes[:cap(x.Changes)])[:len(x.Changes)]
		whole[i].Signals = slices.Clone(x.Signals[:cap(x.Signals)])[:len(x.Signals)]
	}
	return whole[:len(l)]
}

// sameTxns tells whether a and b are the same, with the room behind the ends of their lists.
func sameTxns(a, b []api.Txn) bool {
	return len(a) == len(b) && slices.EqualFunc(a[:cap(a)], b[:cap(a)], func(x, y api.Txn) bool {
		return x.Lsn == y.Lsn && x.Kind == y.Kind && x.Mark == y.Mark &&
			len(x.Changes) == len(y.Changes) && slices.Equal(x.Changes[:cap(x.Changes)], y.Changes[:cap(x.Changes)]) &&
			len(x.Signals) == len(y.Signals) && slices.Equal(x.Signals[:cap(x.Signals)], y.Signals[:cap(x.Signals)])
	})
}

// spoil writes into all of l, and into the room behind its end.
func spoil(l []api.Row) {
	l = l[:cap(l)]
	for i := range l {
		l[i] = row(-9, "spoilt")
	}
}

// choice tells numbers that look like chance, and are the same in each run.
type choice uint64

// below is the next number, from 0 to one less than n.
func (c *choice) below(n int) int {
	*c = *c*6364136223846793005 + 1442695040888963407
	return int(uint64(*c) >> 33 % uint64(n))
}
