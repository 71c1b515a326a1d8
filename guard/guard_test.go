package guard

import (
	"math"
	"slices"
	"strconv"
	"strings"
	"testing"

	"qanat/api"
)

func TestExample(t *testing.T) {
	r := replica(t, 1)
	puts(t, "the first", r, 1, api.Op{Lsn: 5, Key: 1, Val: "a"})
	puts(t, "an elder one", r, 0, api.Op{Lsn: 4, Key: 1, Gone: true})
	if rows := r.Rows(0); !slices.Equal(rows, []api.Row{{Key: 1, Val: "a"}}) {
		t.Errorf("Rows: got %v, want {1 a}", rows)
	}
	holds(t, "the example", r, cells(there(1, 5, "a")))
}

func TestNew(t *testing.T) {
	for n := 1; n <= 8; n++ {
		r := replica(t, n)
		holds(t, "new", r, make([][]api.Cell, n)...)
		puts(t, "to none", r, 0)
		for table := range n {
			puts(t, "to each", r, 1, op(int64(table), table, 5, "a"))
		}
		puts(t, "to one more", r, 0, op(1, n, 5, "a"))
	}
}

func TestNewOfWrongNumbers(t *testing.T) {
	for _, n := range []int{0, 9, 10, -1, -2, -8, 256, 257, -255, 1<<32 + 1, 1 << 62, 1<<62 + 1, math.MinInt, math.MinInt + 1, math.MinInt32, math.MaxInt32, math.MaxInt - 1, math.MaxInt} {
		if r, e := New(n); r != nil || e != api.ErrArg {
			t.Errorf("New of %d: got %v, %d, want nil, %d", n, r, e, api.ErrArg)
		}
	}
}

func TestPutOfNone(t *testing.T) {
	r := replicaOf(t, 2, op(5, 1, 1, "a"))
	puts(t, "none", r, 0)
	puts(t, "nil", r, 0, []api.Op(nil)...)
	puts(t, "an empty list", r, 0, ops()...)
	holds(t, "none", r, nil, cells(there(1, 5, "a")))
}

// TestPutOfOneKey: an op plays a part unless the cell has an Lsn above its own.
func TestPutOfOneKey(t *testing.T) {
	r := replica(t, 2)
	puts(t, "no cell", r, 1, op(5, 0, 1, "a"))
	holds(t, "no cell", r, cells(there(1, 5, "a")), nil)
	puts(t, "one below", r, 0, op(4, 0, 1, "b"))
	puts(t, "one below, Gone", r, 0, gone(4, 0, 1))
	puts(t, "far below", r, 0, op(math.MinInt64, 0, 1, "b"), gone(-1, 0, 1), gone(0, 0, 1))
	holds(t, "below", r, cells(there(1, 5, "a")), nil)
	puts(t, "the same", r, 1, op(5, 0, 1, "c"))
	holds(t, "the same", r, cells(there(1, 5, "c")), nil)
	puts(t, "the same, Gone", r, 1, goneWith(5, 0, 1, "d"))
	holds(t, "the same, Gone", r, cells(away(1, 5)), nil)
	puts(t, "the same, Gone twice", r, 1, gone(5, 0, 1))
	puts(t, "below one that is gone", r, 0, op(4, 0, 1, "e"))
	holds(t, "below one that is gone", r, cells(away(1, 5)), nil)
	puts(t, "the same, there again", r, 1, op(5, 0, 1, "f"))
	holds(t, "the same, there again", r, cells(there(1, 5, "f")), nil)
	puts(t, "above", r, 1, op(6, 0, 1, ""))
	holds(t, "above", r, cells(there(1, 6, "")), nil)
	puts(t, "above, Gone", r, 1, gone(7, 0, 1))
	holds(t, "above, Gone", r, cells(away(1, 7)), nil)
	puts(t, "between", r, 0, op(6, 0, 1, "g"))
	puts(t, "far above one that is gone", r, 1, op(math.MaxInt64, 0, 1, "h"))
	holds(t, "far above one that is gone", r, cells(there(1, math.MaxInt64, "h")), nil)
	puts(t, "one below the greatest", r, 0, gone(math.MaxInt64-1, 0, 1))
	puts(t, "another table", r, 1, gone(1, 1, 1))
	holds(t, "another table", r, cells(there(1, math.MaxInt64, "h")), cells(away(1, 1)))
}

// TestPutOfGone: of a key without a cell there is one then, and whatever val the op has plays no part.
func TestPutOfGone(t *testing.T) {
	for _, val := range []string{"", "a", "\x00", strings.Repeat("v", api.MaxVal+1)} {
		r := replica(t, 1)
		puts(t, "no cell", r, 1, goneWith(3, 0, 7, val))
		holds(t, "no cell", r, cells(away(7, 3)))
		puts(t, "an elder one", r, 0, op(2, 0, 7, val))
		holds(t, "an elder one", r, cells(away(7, 3)))
		puts(t, "there, and gone", r, 2, op(3, 0, 7, val), goneWith(3, 0, 7, val))
		holds(t, "there, and gone", r, cells(away(7, 3)))
		puts(t, "there", r, 1, op(4, 0, 7, val))
		holds(t, "there", r, cells(there(7, 4, val)))
	}
}

// TestPutOfAnyLsns: whatever Lsn the cell has, and whatever the op's is, below 0 and far away, too.
func TestPutOfAnyLsns(t *testing.T) {
	lsns := []int64{math.MinInt64, math.MinInt64 + 1, -1 << 40, math.MinInt32, -2, -1, 0, 1, 2, math.MaxUint32, api.MaxLsn, api.MaxLsn + 1, 1 << 62, math.MaxInt64 - 1, math.MaxInt64}
	for i, first := range lsns {
		for k, next := range lsns {
			for _, o := range ops(op(next, 0, 9, "b"), gone(next, 0, 9)) {
				a, b := replicaOf(t, 1, op(first, 0, 9, "a")), replicaOf(t, 1, gone(first, 0, 9))
				if k < i {
					puts(t, "below", a, 0, o)
					holds(t, "below", a, cells(there(9, first, "a")))
					puts(t, "below one that is gone", b, 0, o)
					holds(t, "below one that is gone", b, cells(away(9, first)))
					continue
				}
				want := there(9, next, "b")
				if o.Gone {
					want = away(9, next)
				}
				puts(t, "not below", a, 1, o)
				holds(t, "not below", a, cells(want))
				puts(t, "not below one that is gone", b, 1, o)
				holds(t, "not below one that is gone", b, cells(want))
			}
		}
	}
}

// TestPutOfAnyKeys: keys are apart, and rise in what is told, whatever numbers they are.
func TestPutOfAnyKeys(t *testing.T) {
	keys := []int64{math.MinInt64, math.MinInt64 + 1, math.MinInt32, -256, -1, 0, 1, 255, 256, math.MaxUint32, 1 << 32, api.MaxKey, api.MaxKey + 1, 1 << 62, math.MaxInt64 - 1, math.MaxInt64}
	r := replica(t, 1)
	var l []api.Op
	var want []api.Cell
	for i, key := range keys {
		l = append(l, op(int64(-i), 0, key, strconv.Itoa(i)))
		want = append(want, there(key, int64(-i), strconv.Itoa(i)))
	}
	for at := range l { // neither rising nor falling
		puts(t, "any keys", r, 1, l[at*7%len(l)])
	}
	holds(t, "any keys", r, want)
	puts(t, "any keys once more", r, len(l), l...)
	holds(t, "any keys once more", r, want)
	for i, key := range keys {
		puts(t, "one of them", r, 1, gone(1, 0, key))
		want[i] = away(key, 1)
		holds(t, "one of them", r, want)
	}
}

// TestPutOfAnyVals: no val is refused.
func TestPutOfAnyVals(t *testing.T) {
	for _, val := range []string{"", "a", "\xff\x00", "äß", strings.Repeat("v", api.MaxVal), strings.Repeat("v", api.MaxVal+1), strings.Repeat("v", api.MaxRecord+1)} {
		if got := replicaOf(t, 1, op(1, 0, 2, val)).Cells(0); !slices.Equal(got, cells(there(2, 1, val))) {
			t.Errorf("a val of %d bytes: got %d cells", len(val), len(got))
		}
	}
}

// TestPutOfNoTable: wherever such ops stand, the others play the part that they would without them.
func TestPutOfNoTable(t *testing.T) {
	right := ops(op(5, 0, 1, "a"), gone(6, 1, 2), op(7, 0, 3, "b"))
	for _, n := range []int{2, 3, api.MaxTables} {
		want := make([][]api.Cell, n)
		want[0], want[1] = cells(there(1, 5, "a"), there(3, 7, "b")), cells(away(2, 6))
		for _, table := range noTables(n) {
			for _, wrong := range ops(op(9, table, 1, "z"), gone(9, table, 2), op(9, table, 77, "z")) {
				r := replica(t, n)
				puts(t, "alone", r, 0, wrong)
				puts(t, "twice", r, 0, wrong, wrong)
				holds(t, "alone", r, make([][]api.Cell, n)...)
				for at := range len(right) + 1 {
					r := replica(t, n)
					puts(t, "among others", r, 3, slices.Insert(slices.Clone(right), at, wrong)...)
					holds(t, "among others", r, want...)
				}
				puts(t, "about all others", r, 3, wrong, right[0], wrong, right[1], right[2], wrong)
				holds(t, "about all others", r, want...)
				puts(t, "behind all others", r, 0, wrong)
				holds(t, "behind all others", r, want...)
			}
		}
	}
}

// TestPutInAnyOrder: ops of one key, put in one call and in several, come to what the chapter says of one behind the other.
func TestPutInAnyOrder(t *testing.T) {
	for _, l := range [][]api.Op{
		ops(op(1, 0, 5, "a"), op(2, 0, 5, "b"), op(3, 0, 5, "c"), op(4, 0, 5, "d")),
		ops(op(1, 0, 5, "a"), gone(2, 0, 5), op(3, 0, 5, "c"), gone(4, 0, 5)),
		ops(op(1, 0, 5, "a"), op(1, 0, 5, "b"), gone(1, 0, 5), op(2, 0, 5, "c"), gone(2, 0, 5)),
		ops(op(-1, 0, 5, "a"), gone(0, 0, 5), op(math.MinInt64, 0, 5, "b"), op(math.MaxInt64, 0, 5, "")),
		ops(op(1, 0, 5, "a"), op(2, 0, 5, "b"), gone(1, 1, 5), op(2, 1, 5, "c"), op(1, 0, 4, "d")),
	} {
		orders(l, func(l []api.Op) {
			p := make(plain, 2)
			want := p.put(l...)
			for cut := range len(l) + 1 {
				r := replica(t, 2)
				if got := r.Put(l[:cut]...) + r.Put(l[cut:]...); got != want {
					t.Errorf("Put(%v), Put(%v): got %d in all, want %d", l[:cut], l[cut:], got, want)
				}
				holds(t, "any order", r, p...)
			}
		})
	}
}

// TestPutOfMany: how many played a part, and what they came to, where there are many.
func TestPutOfMany(t *testing.T) {
	const n = 100_000
	rising, falling := make([]api.Op, n), make([]api.Op, n)
	want := make([]api.Cell, n)
	for i := range want {
		key := int64(i-n/2) * (1 << 40)
		want[i] = there(key, int64(i), strconv.Itoa(i))
		rising[i] = op(int64(i), 3, key, strconv.Itoa(i))
		falling[n-1-i] = rising[i]
	}
	for _, l := range [][]api.Op{rising, falling} {
		r := replica(t, 4)
		if got := r.Put(l...); got != n || !slices.Equal(r.Cells(3), want) || len(r.Rows(3)) != n {
			t.Errorf("Put of %d: got %d, %d cells, %d rows", n, got, len(r.Cells(3)), len(r.Rows(3)))
		}
	}
	for i := range falling {
		falling[i].Key, rising[i].Key = 1, 1
	}
	r := replica(t, 4)
	if up, down := r.Put(rising...), r.Put(falling...); up != n || down != 1 {
		t.Errorf("Put of %d of one key: rising: got %d, want %d; falling behind them: got %d, want 1", n, up, n, down)
	}
	tableIs(t, "of one key", r, 3, there(1, n-1, strconv.Itoa(n-1)))
}

// TestCellsInAnyOrder: they rise by their keys, whatever order they came in, and whichever of them are gone.
func TestCellsInAnyOrder(t *testing.T) {
	keys := []int64{-9, 0, 4, 1 << 40}
	for which := range 1 << len(keys) {
		var l []api.Op
		var want []api.Cell
		var rows []api.Row
		for i, key := range keys {
			if which>>i&1 == 1 {
				l = append(l, gone(int64(i), 1, key))
				want = append(want, away(key, int64(i)))
				continue
			}
			l = append(l, op(int64(i), 1, key, "v"))
			want = append(want, there(key, int64(i), "v"))
			rows = append(rows, api.Row{Key: key, Val: "v"})
		}
		orders(l, func(l []api.Op) {
			r := replicaOf(t, 3, l...)
			holds(t, "any order", r, nil, want, nil)
			if got := r.Rows(1); !slices.Equal(got, rows) {
				t.Errorf("Rows: got %v, want %v", got, rows)
			}
		})
	}
}

// TestOfNoTable: of a table that there is not, none is told, whatever the others have.
func TestOfNoTable(t *testing.T) {
	for n := 1; n <= api.MaxTables; n++ {
		r := replica(t, n)
		for table := range n {
			puts(t, "each", r, 2, op(1, table, 5, "a"), gone(1, table, 6))
		}
		for _, table := range noTables(n) {
			if len(r.Cells(table)) != 0 || len(r.Rows(table)) != 0 {
				t.Errorf("table %d of %d: got %v, %v, want none", table, n, r.Cells(table), r.Rows(table))
			}
		}
	}
}

// TestTables: how many there are hangs on New alone.
func TestTables(t *testing.T) {
	for n := 1; n <= api.MaxTables; n++ {
		r := replicaOf(t, n, op(1, 0, 1, "a"), op(1, n-1, 2, "b"), op(1, n, 1, "c"), op(1, -1, 1, "d"))
		r.Cells(n)
		r.Rows(n)
		if r.Tables() != n {
			t.Errorf("Tables: got %d, want %d", r.Tables(), n)
		}
	}
}
