package table

import (
	"math"
	"slices"
	"strconv"
	"testing"

	"qanat/api"
)

// TestChangesHandedInStay: the list that Apply and Fits take, and the room behind its end, are as they were, and are not kept.
func TestChangesHandedInStay(t *testing.T) {
	first := list(put(0, 5, "a"), put(1, 3, "b"), put(0, 5, "c"), gone(1, 9), put(0, 1, "room"), put(1, 1, "room"))
	l := slices.Clone(first)
	s := set(t, 2)
	told(t, "Fits, Apply", true, s.Fits(l[:4]...), s.Apply(l[:4]...), s.Apply(put(0, 5, "d"), gone(1, 3)), s.Fits(l[:2]...))
	if !slices.Equal(l, first) {
		t.Errorf("handed in: got %+v, want %+v", l, first)
	}
	told(t, "Apply once more", true, s.Apply(l[:4]...))
	for i := range l {
		l[i] = put(0, 77, "spoilt")
	}
	holds(t, "not kept", s, rows(row(5, "c")), rows(row(3, "b")))
}

// TestRowsHandedInStay: likewise the list that Load takes, in whatever order it is.
func TestRowsHandedInStay(t *testing.T) {
	room := rows(row(8, "room"), row(9, "room"))
	for _, l := range [][]api.Row{
		rows(row(3, "b"), row(5, "a")), rows(row(5, "a"), row(3, "b")), rows(row(5, "z"), row(3, "b"), row(5, "a")),
	} {
		n := len(l)
		l = slices.Concat(l, room)
		first := slices.Clone(l)
		s := set(t, 2)
		told(t, "Load", true, s.Load(0, l[:n]), s.Load(1, l[:n]))
		told(t, "Apply", true, s.Apply(put(0, 4, "c"), put(0, 3, "d"), put(0, 10, "e"), gone(0, 5)))
		rowsAre(t, "handed in", l, first...)
		spoil(l)
		holds(t, "not kept", s, rows(row(3, "d"), row(4, "c"), row(10, "e")), rows(row(3, "b"), row(5, "a")))
	}
}

// TestNoRoomIsShared: tables that were loaded from one list have nothing in common.
func TestNoRoomIsShared(t *testing.T) {
	l := rows(row(1, "a"), row(2, "b"))
	s := set(t, 2)
	told(t, "Load", true, s.Load(0, l), s.Load(1, l))
	told(t, "Apply", true, s.Apply(put(0, 1, "z"), gone(0, 2), put(1, 3, "c")))
	holds(t, "each its own", s, rows(row(1, "z")), rows(row(1, "a"), row(2, "b"), row(3, "c")))
}

func TestWhatIsHandedOutIsNew(t *testing.T) {
	want := rows(row(1, "a"), row(3, "b"), row(5, "c"))
	for what, fill := range map[string]func(*Set) bool{
		"Load": func(s *Set) bool { return s.Load(1, want) },
		"Apply": func(s *Set) bool {
			return s.Apply(put(1, 5, "c"), put(1, 1, "a"), put(1, 3, "b"), put(1, 9, "d"), gone(1, 9))
		},
	} {
		s := set(t, 2)
		told(t, what, true, fill(s))
		kept, piece := s.Rows(1), s.After(1, 1, 1)
		for key := int64(0); key < 6; key++ {
			for n := range 5 {
				spoil(s.After(1, key, n))
				spoil(append(s.After(1, key, n), row(4, "more")))
			}
		}
		spoil(s.Rows(1))
		spoil(append(s.Rows(1), row(4, "more")))
		spoil(append(s.Rows(0), row(4, "more")))
		spoil(append(s.Rows(2), row(4, "more")))
		holds(t, what, s, nil, want)
		told(t, what, true, s.Apply(put(1, 3, "z"), gone(1, 1), put(1, 0, "y")))
		rowsAre(t, what+": an earlier answer of Rows", kept, want...)
		rowsAre(t, what+": an earlier answer of After", piece, row(3, "b"))
		holds(t, what+", changed", s, nil, rows(row(0, "y"), row(3, "z"), row(5, "c")))
	}
}

// TestSetsAreApart: what is done with one set changes nothing of another one.
func TestSetsAreApart(t *testing.T) {
	a, b := setOf(t, 1, put(0, 1, "a")), setOf(t, 1, put(0, 1, "a"))
	told(t, "one", true, a.Apply(put(0, 2, "b"), gone(0, 1)))
	told(t, "the other", true, b.Load(0, rows(row(3, "c"))))
	holds(t, "one", a, rows(row(2, "b")))
	holds(t, "the other", b, rows(row(3, "c")))
}

// TestTablesAreApart: whatever becomes of one table, the others stay as they are.
func TestTablesAreApart(t *testing.T) {
	for table := range api.MaxTables {
		var l []api.Change
		want := make([][]api.Row, api.MaxTables)
		for i := range want {
			key := int64(i)
			l = append(l, put(i, 50, strconv.Itoa(i)), put(i, key, ""))
			want[i] = rows(row(key, ""), row(50, strconv.Itoa(i)))
		}
		s := setOf(t, api.MaxTables, l...)
		holds(t, "all", s, want...)
		told(t, "put", true, s.Apply(put(table, 50, "z"), put(table, 77, "y"), put(table, -1, "x")))
		told(t, "taken away", true, s.Apply(gone(table, int64(table)), gone(table, 77)))
		want[table] = rows(row(-1, "x"), row(50, "z"))
		holds(t, "changed", s, want...)
		told(t, "loaded", true, s.Load(table, rows(row(6, "w"))))
		want[table] = rows(row(6, "w"))
		holds(t, "loaded", s, want...)
		told(t, "emptied", true, s.Load(table, nil))
		want[table] = nil
		holds(t, "emptied", s, want...)
	}
}

// TestScripts holds calls in any order against the chapter word by word.
func TestScripts(t *testing.T) {
	c := choice(9)
	for n := 1; n <= api.MaxTables; n++ {
		for _, keys := range []int{2, 9, 60} {
			script(t, &c, n, keys, 150)
		}
	}
}

// TestScriptsOfFullTables: likewise, where tables have about as many rows as may be.
func TestScriptsOfFullTables(t *testing.T) {
	c := choice(10)
	for n := 1; n <= 3; n++ {
		script(t, &c, n, 2*api.MaxRows, 150)
	}
}

// change is any change among n tables, and now and then one of no table.
func change(c *choice, n, keys int) api.Change {
	span := math.MaxInt64 / int64(keys)
	x := api.Change{Table: c.below(n), Key: int64(c.below(keys)-keys/2) * span, Val: strconv.Itoa(c.below(1000))}
	if c.below(2) == 0 {
		x.Gone = true
	}
	if c.below(60) == 0 {
		x.Table = noTables(n)[c.below(3)]
	}
	return x
}

// loaded is any rows; where there are many keys, about as many as a table may have.
func loaded(c *choice, keys int) []api.Row {
	l := make([]api.Row, c.below(keys))
	if keys > api.MaxRows {
		l = make([]api.Row, api.MaxRows-3+c.below(6))
	}
	for i := range l {
		key := c.below(keys)
		if keys > api.MaxRows {
			key = i // so that no two are alike
		}
		l[i] = row(int64(key-keys/2)*(math.MaxInt64/int64(keys)), strconv.Itoa(i))
	}
	return l
}

// script does so many steps with n tables, over so many keys.
func script(t *testing.T, c *choice, n, keys, steps int) {
	t.Helper()
	s, p := set(t, n), plainOf(n)
	for range steps {
		if c.below(12) == 0 {
			table, l := c.below(n+1), loaded(c, keys)
			told(t, "Load", p.load(table, l), s.Load(table, l))
		}
		l := make([]api.Change, c.below(12))
		for i := range l {
			l[i] = change(c, n, keys)
		}
		told(t, "Fits", p.fits(l), s.Fits(l...))
		told(t, "Apply", p.apply(l), s.Apply(l...))
		for i, want := range p.all() {
			key, k := int64(c.below(keys)-keys/2)*(math.MaxInt64/int64(keys)), c.below(keys+2)-1
			rowsAre(t, "After", s.After(i, key, k), after(want, key, k)...)
			rowsAre(t, "Rows", s.Rows(i), want...)
		}
		if t.Failed() {
			t.FailNow() // all that follows would be told as wrong, too
		}
	}
	if keys <= api.MaxRows {
		holds(t, "behind a script", s, p.all()...)
	}
}
