package guard

import (
	"math"
	"slices"
	"strconv"
	"testing"

	"qanat/api"
)

// TestHandedInStays: Put writes neither into what it is handed nor behind its end, and does not keep it.
func TestHandedInStays(t *testing.T) {
	first := ops(op(5, 0, 1, "a"), goneWith(4, 0, 1, "b"), goneWith(6, 1, 3, "c"), op(1, 9, 1, "d"), op(5, 0, 1, "e"), op(9, 0, 1, "room"), op(9, 1, 8, "room"))
	l := slices.Clone(first)
	r := replica(t, 2)
	puts(t, "with room behind it", r, 3, l[:5]...)
	if !slices.Equal(l, first) {
		t.Errorf("handed in: got %v, want %v", l, first)
	}
	want := [][]api.Cell{cells(there(1, 5, "e")), cells(away(3, 6))}
	holds(t, "with room behind it", r, want...)
	for i := range l {
		l[i] = op(99, i%2, 1, "spoilt")
	}
	holds(t, "not kept", r, want...)
	puts(t, "more behind it", r, 2, op(7, 0, 1, "f"), op(7, 1, 4, "g"))
	if l[0] != op(99, 0, 1, "spoilt") || l[6] != op(99, 0, 1, "spoilt") {
		t.Errorf("not kept: what was handed in is written into: got %v", l)
	}
}

// spoilCells writes into all of l, and into the room behind its end.
func spoilCells(l []api.Cell) {
	l = l[:cap(l)]
	for i := range l {
		l[i] = api.Cell{Key: -9, Lsn: -9, Gone: i%2 == 0, Val: "spoilt"}
	}
}

// spoilRows likewise writes into rows.
func spoilRows(l []api.Row) {
	l = l[:cap(l)]
	for i := range l {
		l[i] = api.Row{Key: -9, Val: "spoilt"}
	}
}

// TestHandedOutIsNew: who writes into an answer changes neither the replica nor another answer.
func TestHandedOutIsNew(t *testing.T) {
	lists := map[string][]api.Op{
		"none of them gone": ops(op(1, 0, 5, "a"), op(2, 0, 3, "b"), op(3, 0, 4, "c"), op(4, 1, 5, "d")),
		"some of them gone": ops(op(1, 0, 5, "a"), gone(2, 0, 3), op(3, 0, 4, "c"), op(4, 1, 5, "d"), gone(5, 1, 6)),
		"all of them gone":  ops(gone(1, 0, 5), gone(2, 0, 3), gone(4, 1, 5)),
	}
	for name, l := range lists {
		p := make(plain, 3)
		p.put(l...)
		r := replicaOf(t, 3, l...)
		kept, rows := r.Cells(0), r.Rows(0)
		for table := -1; table <= 3; table++ {
			spoilCells(r.Cells(table))
			spoilCells(append(r.Cells(table), there(4, 9, "more")))
			spoilRows(r.Rows(table))
			spoilRows(append(r.Rows(table), api.Row{Key: 4, Val: "more"}))
		}
		holds(t, name+", the answers spoilt", r, p...)
		r.Put(gone(9, 0, 5), op(9, 0, 3, "z"), op(9, 0, 1, "y"), op(9, 0, 4, "x"))
		if !slices.Equal(kept, p[0]) || !slices.Equal(rows, rowsOf(p[0])) {
			t.Errorf("%s: earlier answers: got %v, %v, want %v, %v", name, kept, rows, p[0], rowsOf(p[0]))
		}
	}
}

// TestReplicasAreApart: what is done with one replica changes nothing of another one.
func TestReplicasAreApart(t *testing.T) {
	l := ops(op(1, 0, 1, "a"), gone(1, 0, 2))
	a, b := replicaOf(t, 1, l...), replicaOf(t, 1, l...)
	puts(t, "one", a, 2, gone(2, 0, 1), op(2, 0, 3, "b"))
	puts(t, "the other", b, 1, op(2, 0, 2, "c"))
	holds(t, "one", a, cells(away(1, 2), away(2, 1), there(3, 2, "b")))
	holds(t, "the other", b, cells(there(1, 1, "a"), there(2, 2, "c")))
}

// TestTablesAreApart: whatever becomes of one table, the others stay as they are.
func TestTablesAreApart(t *testing.T) {
	for table := range api.MaxTables {
		r := replica(t, api.MaxTables)
		want := make([][]api.Cell, api.MaxTables)
		for i := range want {
			puts(t, "each", r, 2, op(int64(i), i, 50, strconv.Itoa(i)), gone(5, i, int64(i)))
			want[i] = cells(away(int64(i), 5), there(50, int64(i), strconv.Itoa(i)))
		}
		holds(t, "each", r, want...)
		puts(t, "one of them", r, 3, gone(9, table, 50), op(9, table, int64(table), "z"), op(-9, table, 77, "y"))
		want[table] = cells(there(int64(table), 9, "z"), away(50, 9), there(77, -9, "y"))
		holds(t, "one of them", r, want...)
	}
}

// notFalling makes the Lsns of each key's ops not fall.
func notFalling(l []api.Op) {
	type place struct {
		table int
		key   int64
	}
	last := map[place]int64{}
	for i := range l {
		at := place{l[i].Table, l[i].Key}
		if lsn, ok := last[at]; ok {
			l[i].Lsn = max(l[i].Lsn, lsn)
		}
		last[at] = l[i].Lsn
	}
}

// anyOp is any op of n tables over so many keys, and now and then one of no table, or one of a far number.
func anyOp(c *choice, n, keys int) api.Op {
	span := math.MaxInt64 / int64(keys)
	o := api.Op{Lsn: int64(c.below(6) - 2), Table: c.below(n), Key: int64(c.below(keys)-keys/2) * span, Gone: c.below(3) == 0, Val: strconv.Itoa(c.below(1000))}
	if c.below(20) == 0 {
		o.Table = noTables(n)[c.below(13)]
	}
	if c.below(20) == 0 {
		o.Key = c.of(math.MinInt64, math.MaxInt64)
	}
	if c.below(20) == 0 {
		o.Lsn = c.of(math.MinInt64, math.MaxInt64)
	}
	return o
}

// TestPutTwice: a list that is put twice, and a beginning of it and then all, leave what it leaves when it is put once, if the Lsns of each key's ops do not fall.
func TestPutTwice(t *testing.T) {
	c := choice(16)
	for range 1000 {
		n := c.below(3) + 1
		l := make([]api.Op, c.below(12))
		for i := range l {
			l[i] = anyOp(&c, n, 3)
		}
		notFalling(l)
		once := replicaOf(t, n, l...)
		first := all(once)
		once.Put(l...)
		holds(t, "put twice", once, first...)
		for cut := range l {
			begun := replicaOf(t, n, l[:cut]...)
			begun.Put(l...)
			holds(t, "a beginning, and then all", begun, first...)
		}
		if t.Failed() {
			t.Fatalf("put: %v", l)
		}
	}
}

// TestPutTwiceWhereLsnsFall: what was put in between does not come back.
func TestPutTwiceWhereLsnsFall(t *testing.T) {
	l := ops(op(2, 0, 1, "a"), op(1, 0, 1, "b"), gone(2, 0, 1), op(2, 0, 1, "c"))
	r := replica(t, 1)
	puts(t, "once", r, 3, l...)
	holds(t, "once", r, cells(there(1, 2, "c")))
	puts(t, "the first anew", r, 1, l[:2]...)
	holds(t, "the first anew", r, cells(there(1, 2, "a")))
	puts(t, "twice", r, 3, l...)
	holds(t, "twice", r, cells(there(1, 2, "c")))
}

// TestScripts holds calls in any order against the chapter word by word.
func TestScripts(t *testing.T) {
	c := choice(15)
	for n := 1; n <= api.MaxTables; n++ {
		for _, keys := range []int{2, 9, 60} {
			r, p := replica(t, n), make(plain, n)
			for range 150 {
				l := make([]api.Op, c.below(12))
				for i := range l {
					l[i] = anyOp(&c, n, keys)
				}
				puts(t, "a script", r, p.put(l...), l...)
				holds(t, "a script", r, p...)
				if t.Failed() {
					t.FailNow() // all that follows would be told as wrong, too
				}
			}
		}
	}
}
