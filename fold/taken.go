package fold

import (
	"maps"
	"slices"

	"qanat/api"
)

// spot is one key of one table, and what the changes that it took come to there.
type spot struct {
	table int
	key   int64
	val   string
	there bool
}

// take does the change, if it is of this spot.
func (s *spot) take(c api.Change) {
	if c.Table != s.table || c.Key != s.key {
		return
	}
	s.val, s.there = c.Val, true
	if c.Gone {
		s.val, s.there = "", false
	}
}

// has tells whether there is a row of that val.
func (s *spot) has(val string) bool {
	return s.there && s.val == val
}

// tables is of each table its vals by their keys.
type tables []map[int64]string

// newTables is n tables without rows.
func newTables(n int) tables {
	t := make(tables, n)
	for i := range t {
		t[i] = map[int64]string{}
	}
	return t
}

// take does the change, if it is of one of these tables.
func (t tables) take(c api.Change) {
	if c.Table < 0 || c.Table >= len(t) {
		return
	}
	if c.Gone {
		delete(t[c.Table], c.Key)
		return
	}
	t[c.Table][c.Key] = c.Val
}

// rows is of each table its rows, rising.
func (t tables) rows() [][]api.Row {
	l := make([][]api.Row, len(t))
	for i, vals := range t {
		for _, key := range slices.Sorted(maps.Keys(vals)) {
			l[i] = append(l[i], api.Row{Key: key, Val: vals[key]})
		}
	}
	return l
}
