package guard

import (
	"cmp"
	"maps"
	"slices"

	"qanat/api"
)

// table is cells by their keys. One that is gone stays, so that an op from ahead of it is known as such.
type table map[int64]api.Cell

// put does the op, whatever table it names, and tells whether it plays a part.
func (t table) put(o api.Op) bool {
	old, there := t[o.Key]
	if there && old.Lsn > o.Lsn {
		return false
	}
	t[o.Key] = cell(o)
	return true
}

// cells is all cells, rising.
func (t table) cells() []api.Cell {
	return slices.SortedFunc(maps.Values(t), byKeys)
}

// cell is what the op makes of its key's cell.
func cell(o api.Op) api.Cell {
	if o.Gone {
		return api.Cell{Key: o.Key, Lsn: o.Lsn, Gone: true}
	}
	return api.Cell{Key: o.Key, Lsn: o.Lsn, Val: o.Val}
}

// byKeys is below 0 where a comes ahead of b, above 0 where it comes behind.
func byKeys(a, b api.Cell) int {
	return cmp.Compare(a.Key, b.Key)
}

// tables is a row of tables, numbered from 0 on.
type tables []table

// put does the op in the table that it names, and tells whether it plays a part: one of no table does not.
func (l tables) put(o api.Op) bool {
	return l.has(o.Table) && l[o.Table].put(o)
}

// cells is all cells of that table, rising: none, if there is no such table.
func (l tables) cells(t int) []api.Cell {
	if !l.has(t) {
		return nil
	}
	return l[t].cells()
}

// has tells whether there is such a table.
func (l tables) has(t int) bool {
	return t >= 0 && t < len(l)
}
