package table

import (
	"cmp"
	"maps"
	"math"
	"slices"
	"strconv"
	"testing"

	"qanat/api"
)

// row is a row of that key and that val.
func row(key int64, val string) api.Row { return api.Row{Key: key, Val: val} }

// rows is a list of rows.
func rows(l ...api.Row) []api.Row { return l }

// put is a change that puts a row.
func put(table int, key int64, val string) api.Change {
	return api.Change{Table: table, Key: key, Val: val}
}

// gone is a change that takes a row away.
func gone(table int, key int64) api.Change {
	return api.Change{Table: table, Key: key, Gone: true}
}

// list is a list of changes.
func list(l ...api.Change) []api.Change { return l }

// puts is changes that put n rows of one table, with keys from the first on.
func puts(table int, first int64, n int) []api.Change {
	l := make([]api.Change, n)
	for i := range l {
		l[i] = put(table, first+int64(i), "v")
	}
	return l
}

// with is the changes of all lists, one list behind the other.
func with(ls ...[]api.Change) []api.Change { return slices.Concat(ls...) }

// set is n tables without rows.
func set(t *testing.T, n int) *Set {
	t.Helper()
	s, e := New(n)
	if s == nil || e != api.OK {
		t.Fatalf("New of %d: got %v, %d", n, s, e)
	}
	return s
}

// setOf is n tables behind those changes.
func setOf(t *testing.T, n int, l ...api.Change) *Set {
	t.Helper()
	s := set(t, n)
	told(t, "Apply", true, s.Apply(l...))
	return s
}

// told asks what the calls answered, in their order.
func told(t *testing.T, what string, want bool, got ...bool) {
	t.Helper()
	for i, ok := range got {
		if ok != want {
			t.Errorf("%s: call %d of %d: got %v, want %v", what, i, len(got), ok, want)
		}
	}
}

// rowsAre holds rows that were answered against those that are asked for, and tells whether they are the same.
func rowsAre(t *testing.T, what string, got []api.Row, want ...api.Row) bool {
	t.Helper()
	if slices.Equal(got, want) {
		return true
	}
	at := 0
	for at < min(len(got), len(want)) && got[at] == want[at] {
		at++
	}
	t.Errorf("%s: from row %d on: got %s of %d rows, want %s of %d", what, at, some(got[at:]), len(got), some(want[at:]), len(want))
	return false
}

// some is the first few of l, as a text of plain letters.
func some(l []api.Row) string {
	text := "["
	for _, r := range l[:min(8, len(l))] {
		text += "{" + strconv.FormatInt(r.Key, 10) + " " + strconv.Quote(r.Val) + "}"
	}
	return text + "]"
}

// after is what After tells, where l is all rows of a table, rising.
func after(l []api.Row, key int64, n int) []api.Row {
	var above []api.Row
	for _, r := range l {
		if r.Key > key && len(above) < n {
			above = append(above, r)
		}
	}
	return above
}

// counts is the numbers that may matter where there are so many rows.
func counts(n int) []int {
	return []int{math.MinInt, -1, 0, 1, 2, n - 1, n, n + 1, math.MaxInt}
}

// noTables is numbers that no one of n tables has.
func noTables(n int) []int {
	return []int{math.MinInt, -n, -1, n, n + 1, api.MaxTables, api.MaxTables + 1, math.MaxInt}
}

// tableIs asks all that s tells of one table: that it has just these rows, which rise by their keys.
func tableIs(t *testing.T, what string, s *Set, table int, want ...api.Row) {
	t.Helper()
	if s.Len(table) != len(want) {
		t.Errorf("%s: Len of table %d: got %d, want %d", what, table, s.Len(table), len(want))
	}
	if !rowsAre(t, what+": Rows", s.Rows(table), want...) {
		return // After would be told as wrong many times
	}
	keys := []int64{math.MinInt64, 0, math.MaxInt64}
	for _, r := range want {
		keys = append(keys, r.Key, max(r.Key, math.MinInt64+1)-1, min(r.Key, math.MaxInt64-1)+1)
	}
	for _, key := range keys {
		for _, n := range counts(len(want)) {
			rowsAre(t, what+": After", s.After(table, key, n), after(want, key, n)...)
		}
	}
}

// holds asks all that s tells: that it has just these tables.
func holds(t *testing.T, what string, s *Set, want ...[]api.Row) {
	t.Helper()
	if s.Tables() != len(want) {
		t.Errorf("%s: Tables: got %d, want %d", what, s.Tables(), len(want))
	}
	for i, l := range want {
		tableIs(t, what, s, i, l...)
	}
	for _, i := range noTables(len(want)) {
		tableIs(t, what+", no table", s, i)
	}
}

// all is the rows of all tables.
func all(s *Set) [][]api.Row {
	l := make([][]api.Row, s.Tables())
	for i := range l {
		l[i] = s.Rows(i)
	}
	return l
}

// spoil writes into all of l, and into the room behind its end.
func spoil(l []api.Row) {
	l = l[:cap(l)]
	for i := range l {
		l[i] = row(-9, "spoilt")
	}
}

// plain is P9.1 word by word: no order is kept, it is made where it is asked for.
type plain []map[int64]string

// plainOf is n tables without rows.
func plainOf(n int) plain {
	p := make(plain, n)
	for i := range p {
		p[i] = map[int64]string{}
	}
	return p
}

// copied is the same tables in memory of their own.
func (p plain) copied() plain {
	q := make(plain, len(p))
	for i, m := range p {
		q[i] = maps.Clone(m)
	}
	return q
}

// apply is what Apply does and tells.
func (p plain) apply(l []api.Change) bool {
	for _, c := range l {
		if c.Table < 0 || c.Table >= len(p) {
			return false
		}
	}
	for _, c := range l {
		if c.Gone {
			delete(p[c.Table], c.Key)
		} else {
			p[c.Table][c.Key] = c.Val
		}
	}
	return true
}

// fits is what Fits tells.
func (p plain) fits(l []api.Change) bool {
	q := p.copied()
	if !q.apply(l) {
		return false
	}
	for _, m := range q {
		if len(m) > api.MaxRows {
			return false
		}
	}
	return true
}

// load is what Load does and tells.
func (p plain) load(table int, l []api.Row) bool {
	if table < 0 || table >= len(p) {
		return false
	}
	p[table] = map[int64]string{}
	for _, r := range l {
		p[table][r.Key] = r.Val
	}
	return true
}

// all is the rows of all tables.
func (p plain) all() [][]api.Row {
	ls := make([][]api.Row, len(p))
	for i, m := range p {
		for _, key := range slices.SortedFunc(maps.Keys(m), cmp.Compare[int64]) {
			ls[i] = append(ls[i], row(key, m[key]))
		}
	}
	return ls
}

// choice tells numbers that look like chance, and are the same in each run.
type choice uint64

// below is the next number, from 0 to one less than n.
func (c *choice) below(n int) int {
	*c = *c*6364136223846793005 + 1442695040888963407
	return int(uint64(*c) >> 33 % uint64(n))
}
