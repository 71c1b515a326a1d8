package table

import (
	"math"
	"slices"
	"strconv"
	"strings"
	"testing"

	"qanat/api"
)

func TestExample(t *testing.T) {
	s := set(t, 2)
	told(t, "the example", true, s.Apply(put(1, 5, "a")))
	holds(t, "the example", s, nil, rows(row(5, "a")))
}

func TestNew(t *testing.T) {
	for n := 1; n <= api.MaxTables; n++ {
		s := set(t, n)
		holds(t, "New", s, make([][]api.Row, n)...)
		told(t, "each table is there", true, s.Apply(put(0, 1, "a"), put(n-1, 2, "b")))
	}
}

func TestNewOfWrongNumbers(t *testing.T) {
	for _, n := range []int{math.MinInt, -api.MaxTables, -2, -1, 0, api.MaxTables + 1, api.MaxTables + 2, 1 << 32, 1<<32 + 1, math.MaxInt} {
		if s, e := New(n); s != nil || e != api.ErrArg {
			t.Errorf("New of %d: got %v, %d, want nil, %d", n, s, e, api.ErrArg)
		}
	}
}

func TestApplyOfNoChanges(t *testing.T) {
	s := setOf(t, 2, put(1, 5, "a"))
	told(t, "nothing", true, s.Apply(), s.Apply([]api.Change(nil)...), s.Apply([]api.Change{}...), set(t, 1).Apply())
	holds(t, "nothing", s, nil, rows(row(5, "a")))
}

func TestApply(t *testing.T) {
	s := set(t, 3)
	told(t, "one", true, s.Apply(put(0, 5, "a")))
	holds(t, "one", s, rows(row(5, "a")), nil, nil)
	told(t, "several of one table", true, s.Apply(put(0, 7, "b"), put(0, 3, "c"), put(0, 6, "")))
	holds(t, "several of one table", s, rows(row(3, "c"), row(5, "a"), row(6, ""), row(7, "b")), nil, nil)
	told(t, "several tables", true, s.Apply(put(2, 3, "d"), put(1, 3, "e"), put(2, 1, "f"), put(0, 3, "g"), gone(0, 6)))
	holds(t, "several tables", s, rows(row(3, "g"), row(5, "a"), row(7, "b")), rows(row(3, "e")), rows(row(1, "f"), row(3, "d")))
	told(t, "Gone and there", true, s.Apply(gone(2, 3)), s.Apply(gone(0, 3), gone(0, 7)))
	holds(t, "Gone and there", s, rows(row(5, "a")), rows(row(3, "e")), rows(row(1, "f")))
	told(t, "Gone and not there", true, s.Apply(gone(2, 3)), s.Apply(gone(0, 6), gone(1, 5), gone(1, -3), gone(2, math.MaxInt64)))
	holds(t, "Gone and not there", s, rows(row(5, "a")), rows(row(3, "e")), rows(row(1, "f")))
	told(t, "the last rows", true, s.Apply(gone(0, 5), gone(1, 3), gone(2, 1), gone(2, 1)))
	holds(t, "the last rows", s, nil, nil, nil)
}

// TestApplyOfOneKeyTwice: changes are done in their order.
func TestApplyOfOneKeyTwice(t *testing.T) {
	s := setOf(t, 2, put(0, 1, "old"), put(1, 2, "old"))
	told(t, "put twice", true, s.Apply(put(0, 1, "a"), put(0, 2, "b"), put(0, 1, "c"), put(0, 2, "")))
	holds(t, "put twice", s, rows(row(1, "c"), row(2, "")), rows(row(2, "old")))
	told(t, "put, and taken away", true, s.Apply(put(0, 3, "d"), gone(0, 3), put(0, 1, "e"), gone(0, 1)))
	holds(t, "put, and taken away", s, rows(row(2, "")), rows(row(2, "old")))
	told(t, "taken away, and put", true, s.Apply(gone(0, 2), put(0, 2, "f"), gone(0, 4), put(0, 4, "g")))
	holds(t, "taken away, and put", s, rows(row(2, "f"), row(4, "g")), rows(row(2, "old")))
	told(t, "taken away twice", true, s.Apply(gone(0, 2), gone(0, 2), gone(1, 2), gone(0, 2)))
	holds(t, "taken away twice", s, rows(row(4, "g")), nil)
	told(t, "put three times", true, s.Apply(put(1, 4, "h"), gone(1, 4), put(1, 4, "i"), gone(1, 4), put(1, 4, "j")))
	holds(t, "put three times", s, rows(row(4, "g")), rows(row(4, "j")))
}

// TestApplyOfAnyNumbers: no key and no val is refused, and the val of a row that is taken away plays no part.
func TestApplyOfAnyNumbers(t *testing.T) {
	long := strings.Repeat("v", api.MaxVal+1)
	s := setOf(t, 1, put(0, math.MaxInt64, long), put(0, math.MinInt64, "a"), put(0, 0, "b"), put(0, -1, "c"), put(0, api.MaxKey+1, "\xff\x00"))
	holds(t, "any keys", s, rows(row(math.MinInt64, "a"), row(-1, "c"), row(0, "b"), row(api.MaxKey+1, "\xff\x00"), row(math.MaxInt64, long)))
	told(t, "Gone with a val", true, s.Apply(api.Change{Key: 0, Gone: true, Val: "z"}, api.Change{Key: 9, Gone: true, Val: "z"}, gone(0, math.MinInt64)))
	holds(t, "Gone with a val", s, rows(row(-1, "c"), row(api.MaxKey+1, "\xff\x00"), row(math.MaxInt64, long)))
}

// TestApplyOfMoreThanFit: Apply itself asks nothing of how many rows there come to be.
func TestApplyOfMoreThanFit(t *testing.T) {
	s := setOf(t, 1, puts(0, 1, api.MaxRows)...)
	told(t, "one more", true, s.Apply(put(0, 0, "a")))
	if s.Len(0) != api.MaxRows+1 {
		t.Errorf("one more: got %d rows", s.Len(0))
	}
}

// TestApplyOfNoTable: wherever the change of no table stands, nothing is changed.
func TestApplyOfNoTable(t *testing.T) {
	right := list(put(0, 5, "z"), gone(1, 6), put(1, 9, "y"))
	for _, n := range []int{2, api.MaxTables} {
		want := make([][]api.Row, n)
		want[0], want[1] = rows(row(5, "a")), rows(row(6, "b"))
		for _, table := range noTables(n) {
			for _, wrong := range list(put(table, 5, "x"), gone(table, 5), gone(table, 77)) {
				s := setOf(t, n, put(0, 5, "a"), put(1, 6, "b"))
				told(t, "alone", false, s.Apply(wrong))
				for at := range len(right) + 1 {
					told(t, "among others", false, s.Apply(slices.Insert(slices.Clone(right), at, wrong)...))
				}
				told(t, "twice", false, s.Apply(wrong, right[0], wrong))
				holds(t, "of no table", s, want...)
			}
		}
	}
}

// fitsCase is what Fits is asked, and what it is to tell.
type fitsCase struct {
	what string
	l    []api.Change
	want bool
}

// fits asks each case of s, and that s stays as it is.
func fits(t *testing.T, s *Set, cases ...fitsCase) {
	t.Helper()
	first := all(s)
	for _, c := range cases {
		told(t, c.what, c.want, s.Fits(c.l...), s.Fits(c.l...))
		for i, l := range first {
			rowsAre(t, c.what+": nothing is changed", s.Rows(i), l...)
		}
	}
}

func TestFitsOfEmptyTables(t *testing.T) {
	fits(t, set(t, 2), []fitsCase{
		{"nothing", nil, true},
		{"an empty list", list(), true},
		{"one", list(put(1, 5, "a")), true},
		{"Gone and not there", list(gone(0, 5)), true},
		{"as many as may be", puts(0, 1, api.MaxRows), true},
		{"one more", puts(0, 1, api.MaxRows+1), false},
		{"as many in each table", with(puts(0, 1, api.MaxRows), puts(1, 1, api.MaxRows)), true},
		{"one more in the last", with(puts(0, 1, api.MaxRows), puts(1, 1, api.MaxRows+1)), false},
		{"one more in the first", with(puts(1, 1, api.MaxRows), puts(0, 1, api.MaxRows+1)), false},
		{"each twice", with(puts(0, 1, api.MaxRows), puts(0, 1, api.MaxRows)), true},
		{"each twice, and one more", with(puts(0, 1, api.MaxRows), puts(0, 2, api.MaxRows)), false},
		{"all taken away, and as many", with(puts(0, 1, 1), list(gone(0, 1)), puts(0, 1, api.MaxRows)), true},
		{"one more, taken away", with(puts(0, 1, api.MaxRows+1), list(gone(0, 1))), true},
		{"one more, another one taken away", with(puts(0, 1, api.MaxRows+1), list(gone(0, 0))), false},
		{"one more, one of another table taken away", with(puts(0, 1, api.MaxRows+1), list(gone(1, 1))), false},
	}...)
}

func TestFitsOfFullTable(t *testing.T) {
	fits(t, setOf(t, 2, puts(0, 1, api.MaxRows)...), []fitsCase{
		{"nothing", nil, true},
		{"a new key", list(put(0, 5000, "a")), false},
		{"a key that is there", list(put(0, 7, "a")), true},
		{"all keys that are there", puts(0, 1, api.MaxRows), true},
		{"a key that is there, and a new one", list(put(0, 7, "a"), put(0, 5000, "a")), false},
		{"a key of the other table", list(put(1, 5000, "a")), true},
		{"one taken away", list(gone(0, 7)), true},
		{"taken away, put", list(gone(0, 7), put(0, 5000, "a")), true},
		{"put, taken away", list(put(0, 5000, "a"), gone(0, 7)), true},
		{"taken away, put, the same key", list(gone(0, 7), put(0, 7, "a")), true},
		{"put, taken away, the same key", list(put(0, 5000, "a"), gone(0, 5000)), true},
		{"taken away, put, and put anew", list(gone(0, 7), put(0, 5000, "a"), put(0, 7, "a")), false},
		{"taken away twice, two put", list(gone(0, 7), gone(0, 7), put(0, 5000, "a"), put(0, 5001, "a")), false},
		{"two taken away, two put", list(put(0, 5000, "a"), gone(0, 7), put(0, 5001, "a"), gone(0, 8)), true},
		{"two taken away, three put", list(put(0, 5000, "a"), gone(0, 7), put(0, 5001, "a"), gone(0, 8), put(0, 0, "a")), false},
		{"one put twice, one taken away", list(put(0, 5000, "a"), put(0, 5000, "b"), gone(0, 7)), true},
		{"put, taken away, put, one taken away", list(put(0, 5000, "a"), gone(0, 5000), put(0, 5000, "b"), gone(0, 7)), true},
		{"put, taken away, put", list(put(0, 5000, "a"), gone(0, 5000), put(0, 5000, "b")), false},
		{"none there is taken away, one put", list(gone(0, 5000), put(0, 5001, "a")), false},
		{"taken away of the other table, put", list(gone(1, 7), put(0, 5000, "a")), false},
	}...)
}

func TestFitsOfOneLess(t *testing.T) {
	fits(t, setOf(t, 3, with(puts(1, 1, api.MaxRows-1), puts(2, 1, 2))...), []fitsCase{
		{"one new key", list(put(1, 0, "a")), true},
		{"two new keys", list(put(1, 0, "a"), put(1, -1, "a")), false},
		{"one new key twice", list(put(1, 0, "a"), put(1, 0, "b")), true},
		{"two, and one taken away", list(put(1, 0, "a"), put(1, -1, "a"), gone(1, 4)), true},
		{"the same keys of another table", list(put(1, 0, "a"), put(2, -1, "a"), put(0, -1, "a")), true},
		{"as many as may be of another table", with(puts(2, 1, api.MaxRows), puts(1, 1, api.MaxRows)), true},
		{"one more of another table", puts(2, 3, api.MaxRows-1), false},
	}...)
}

// TestFitsOfMoreThanMayBe: each table counts, that of no change, too.
func TestFitsOfMoreThanMayBe(t *testing.T) {
	s := setOf(t, 2, with(puts(1, 1, api.MaxRows+2), puts(0, 1, 1))...)
	fits(t, s, []fitsCase{
		{"nothing", nil, false},
		{"of the other table", list(gone(0, 1)), false},
		{"one taken away", list(gone(1, 1)), false},
		{"two taken away", list(gone(1, 1), gone(1, 2)), true},
		{"two taken away, one put", list(gone(1, 1), gone(1, 2), put(1, 1, "a")), false},
		{"three taken away, one put", list(gone(1, 1), gone(1, 2), gone(1, 3), put(1, 1, "a")), true},
	}...)
}

func TestFitsOfNoTable(t *testing.T) {
	for _, n := range []int{1, api.MaxTables} {
		s := setOf(t, n, put(0, 5, "a"))
		for _, table := range noTables(n) {
			fits(t, s, []fitsCase{
				{"alone", list(put(table, 5, "a")), false},
				{"Gone", list(gone(table, 5)), false},
				{"first", list(gone(table, 5), put(0, 6, "b")), false},
				{"in the middle", list(put(0, 6, "b"), put(table, 6, "b"), gone(0, 5)), false},
				{"last", list(put(0, 6, "b"), put(table, 5, "a")), false},
			}...)
		}
	}
}

func TestLoad(t *testing.T) {
	s := setOf(t, 2, put(0, 1, "a"), put(1, 2, "b"))
	told(t, "any order", true, s.Load(0, rows(row(9, "x"), row(4, "y"), row(7, ""), row(math.MinInt64, "z"))))
	holds(t, "any order, over another row", s, rows(row(math.MinInt64, "z"), row(4, "y"), row(7, ""), row(9, "x")), rows(row(2, "b")))
	told(t, "like keys", true, s.Load(0, rows(row(9, "x"), row(4, "y"), row(9, "w"), row(4, ""), row(5, "v"), row(9, "u"))))
	holds(t, "like keys: the last one counts", s, rows(row(4, ""), row(5, "v"), row(9, "u")), rows(row(2, "b")))
	told(t, "changes behind it", true, s.Apply(put(0, 6, "c"), gone(0, 5), put(0, 4, "d")))
	holds(t, "changes behind it", s, rows(row(4, "d"), row(6, "c"), row(9, "u")), rows(row(2, "b")))
	told(t, "one row, no row", true, s.Load(1, rows(row(5, "e"))), s.Load(0, nil))
	holds(t, "one row, no row", s, nil, rows(row(5, "e")))
	told(t, "no row", true, s.Load(1, rows()), s.Load(0, nil))
	holds(t, "no row", s, nil, nil)
	told(t, "changes behind it", true, s.Apply(put(0, 6, "c"), put(1, 6, "f")))
	holds(t, "changes behind it", s, rows(row(6, "c")), rows(row(6, "f")))
}

// TestLoadOfMany: Load takes any number of rows.
func TestLoadOfMany(t *testing.T) {
	for _, n := range []int{api.MaxRows, api.MaxRows + 1, 5 * api.MaxRows} {
		l := make([]api.Row, n)
		for i := range l {
			l[n-1-i] = row(int64(i), strconv.Itoa(i))
		}
		s := set(t, 2)
		told(t, "many", true, s.Load(1, l))
		slices.Reverse(l)
		rowsAre(t, "many", s.Rows(1), l...)
		told(t, "many: do they fit?", n <= api.MaxRows, s.Fits())
	}
}

func TestLoadOfNoTable(t *testing.T) {
	s := setOf(t, 3, put(0, 1, "a"), put(1, 2, "b"), put(2, 3, "c"))
	for _, table := range noTables(3) {
		told(t, "no table", false, s.Load(table, rows(row(1, "z"))), s.Load(table, nil))
	}
	holds(t, "no table", s, rows(row(1, "a")), rows(row(2, "b")), rows(row(3, "c")))
}

func TestAfter(t *testing.T) {
	a, b, c := row(-5, "a"), row(0, ""), row(9, "c")
	s := setOf(t, 3, put(1, 9, "c"), put(1, -5, "a"), put(1, 0, ""), put(2, 4, "d"))
	rowsAre(t, "below all", s.After(1, -6, 9), a, b, c)
	rowsAre(t, "of one that is there", s.After(1, -5, 9), b, c)
	rowsAre(t, "of one that is not", s.After(1, 3, 9), c)
	rowsAre(t, "of the last", s.After(1, 9, 9))
	rowsAre(t, "the first", s.After(1, math.MinInt64, 1), a)
	rowsAre(t, "as many as there are", s.After(1, math.MinInt64, 3), a, b, c)
	rowsAre(t, "more", s.After(1, math.MinInt64, 4), a, b, c)
	rowsAre(t, "as many as may be", s.After(1, math.MinInt64, math.MaxInt), a, b, c)
	rowsAre(t, "another table", s.After(2, 0, 9), row(4, "d"))
	rowsAre(t, "one that has none", s.After(0, math.MinInt64, 9))
	for _, n := range []int{0, -1, math.MinInt} {
		rowsAre(t, "none of n below 1", s.After(1, math.MinInt64, n))
		rowsAre(t, "none of n below 1, of no table", s.After(3, math.MinInt64, n))
	}
	for _, table := range noTables(3) {
		rowsAre(t, "no table", s.After(table, math.MinInt64, 9))
	}
}

func TestRowsAndLen(t *testing.T) {
	s := setOf(t, 2, put(1, 9, "b"), put(1, 4, "a"))
	rowsAre(t, "one that has some", s.Rows(1), row(4, "a"), row(9, "b"))
	rowsAre(t, "one that has none", s.Rows(0))
	if s.Len(1) != 2 || s.Len(0) != 0 {
		t.Errorf("Len: got %d, %d, want 2, 0", s.Len(1), s.Len(0))
	}
	for _, table := range noTables(2) {
		rowsAre(t, "no table", s.Rows(table))
		if s.Len(table) != 0 {
			t.Errorf("Len of table %d: got %d, want 0", table, s.Len(table))
		}
	}
}

// TestTables: how many there are hangs on New alone.
func TestTables(t *testing.T) {
	for n := 1; n <= api.MaxTables; n++ {
		s := set(t, n)
		s.Apply(put(0, 1, "a"), put(n-1, 2, "b"))
		s.Apply(put(n, 1, "a"))
		s.Load(n-1, nil)
		s.Load(n, rows(row(1, "a")))
		s.Fits(put(n, 1, "a"))
		if s.Tables() != n {
			t.Errorf("Tables: got %d, want %d", s.Tables(), n)
		}
	}
}
