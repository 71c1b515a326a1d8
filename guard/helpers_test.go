package guard

import (
	"math"
	"slices"
	"testing"

	"qanat/api"
)

// op is an op that puts a row.
func op(lsn int64, table int, key int64, val string) api.Op {
	return api.Op{Lsn: lsn, Table: table, Key: key, Val: val}
}

// gone is an op that takes a row away.
func gone(lsn int64, table int, key int64) api.Op {
	return api.Op{Lsn: lsn, Table: table, Key: key, Gone: true}
}

// goneWith is likewise one that has a val, which plays no part.
func goneWith(lsn int64, table int, key int64, val string) api.Op {
	return api.Op{Lsn: lsn, Table: table, Key: key, Gone: true, Val: val}
}

// ops is a list of ops.
func ops(l ...api.Op) []api.Op { return l }

// there is a cell that is not gone.
func there(key, lsn int64, val string) api.Cell { return api.Cell{Key: key, Lsn: lsn, Val: val} }

// away is a cell that is gone.
func away(key, lsn int64) api.Cell { return api.Cell{Key: key, Lsn: lsn, Gone: true} }

// cells is a list of cells.
func cells(l ...api.Cell) []api.Cell { return l }

// rowsOf is the rows that these cells have.
func rowsOf(l []api.Cell) []api.Row {
	var rows []api.Row
	for _, c := range l {
		if !c.Gone {
			rows = append(rows, api.Row{Key: c.Key, Val: c.Val})
		}
	}
	return rows
}

// noTables is numbers that no one of n tables has.
func noTables(n int) []int {
	return []int{math.MinInt, math.MinInt + 1, -1 << 32, -256, -n, -1, n, n + 1, api.MaxTables, api.MaxTables + 1, 256, 1 << 32, math.MaxInt}
}

// replica is n tables without cells.
func replica(t *testing.T, n int) *Replica {
	t.Helper()
	r, e := New(n)
	if r == nil || e != api.OK {
		t.Fatalf("New of %d: got %v, %d", n, r, e)
	}
	return r
}

// replicaOf is n tables behind those ops, whatever part they play.
func replicaOf(t *testing.T, n int, l ...api.Op) *Replica {
	t.Helper()
	r := replica(t, n)
	r.Put(l...)
	return r
}

// puts asks how many of the ops play a part.
func puts(t *testing.T, what string, r *Replica, want int, l ...api.Op) {
	t.Helper()
	if got := r.Put(l...); got != want {
		t.Errorf("%s: Put(%v): got %d, want %d", what, l, got, want)
	}
}

// tableIs asks all that r tells of one table: that it has just these cells, and the rows of those that are not gone.
func tableIs(t *testing.T, what string, r *Replica, table int, want ...api.Cell) {
	t.Helper()
	if got := r.Cells(table); !slices.Equal(got, want) {
		t.Errorf("%s: Cells(%d): got %v, want %v", what, table, got, want)
	}
	if got, rows := r.Rows(table), rowsOf(want); !slices.Equal(got, rows) {
		t.Errorf("%s: Rows(%d): got %v, want %v", what, table, got, rows)
	}
}

// holds asks all that r tells: that it has just these tables.
func holds(t *testing.T, what string, r *Replica, want ...[]api.Cell) {
	t.Helper()
	if r.Tables() != len(want) {
		t.Errorf("%s: Tables: got %d, want %d", what, r.Tables(), len(want))
	}
	for i, l := range want {
		tableIs(t, what, r, i, l...)
	}
	for _, i := range noTables(len(want)) {
		tableIs(t, what+", no table", r, i)
	}
}

// all is the cells of all tables.
func all(r *Replica) [][]api.Cell {
	l := make([][]api.Cell, r.Tables())
	for i := range l {
		l[i] = r.Cells(i)
	}
	return l
}

// plain is P15.1 and P15.2 word by word: each table is a list of cells, which is gone through for each op.
type plain [][]api.Cell

// put is what Put does and tells.
func (p plain) put(l ...api.Op) int {
	played := 0
	for _, o := range l {
		if o.Table >= 0 && o.Table < len(p) && p.one(o) {
			played++
		}
	}
	return played
}

// one is what becomes of one op of a table that there is.
func (p plain) one(o api.Op) bool {
	c := there(o.Key, o.Lsn, o.Val)
	if o.Gone {
		c = away(o.Key, o.Lsn)
	}
	at := 0
	for at < len(p[o.Table]) && p[o.Table][at].Key < o.Key {
		at++
	}
	switch {
	case at == len(p[o.Table]) || p[o.Table][at].Key > o.Key:
		p[o.Table] = slices.Insert(p[o.Table], at, c)
	case p[o.Table][at].Lsn > o.Lsn:
		return false
	default:
		p[o.Table][at] = c
	}
	return true
}

// orders calls f with l in each order that it may be in.
func orders(l []api.Op, f func([]api.Op)) {
	l = slices.Clone(l)
	var from func(int)
	from = func(at int) {
		if at == len(l) {
			f(slices.Clone(l))
			return
		}
		for i := at; i < len(l); i++ {
			l[at], l[i] = l[i], l[at]
			from(at + 1)
			l[at], l[i] = l[i], l[at]
		}
	}
	from(0)
}

// choice tells numbers that look like chance, and are the same in each run.
type choice uint64

// below is the next number, from 0 to one less than n.
func (c *choice) below(n int) int {
	*c = *c*6364136223846793005 + 1442695040888963407
	return int(uint64(*c) >> 33 % uint64(n))
}

// of is one of those numbers.
func (c *choice) of(l ...int64) int64 { return l[c.below(len(l))] }
