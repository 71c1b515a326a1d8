package index

import (
	"math"
	"slices"
	"strconv"
	"strings"
	"testing"

	"qanat/api"
)

func TestExample(t *testing.T) {
	x := New(row(5, "a"), row(3, "b"))
	rowsAre(t, "the example", x.After(3, 9), row(5, "a"))
}

func TestNewOfNoRows(t *testing.T) {
	for what, x := range map[string]*Index{"nothing": New(), "nil": New([]api.Row(nil)...), "an empty list": New([]api.Row{}...)} {
		holds(t, what, x)
		told(t, what+": Del", false, x.Del(0), x.Del(math.MinInt64), x.Del(math.MaxInt64))
		told(t, what+": Put", true, x.Put(7, "a"))
		holds(t, what+", and a row", x, row(7, "a"))
	}
}

func TestNewOfOneRow(t *testing.T) {
	for _, key := range []int64{math.MinInt64, -1, 0, 1, api.MaxKey, api.MaxKey + 1, math.MaxInt64} {
		for _, val := range []string{"", "a", strings.Repeat("v", api.MaxVal+1)} {
			holds(t, "one row", New(row(key, val)), row(key, val))
		}
	}
}

func TestNewOfAnyOrder(t *testing.T) {
	want := list(row(math.MinInt64, "a"), row(-3, ""), row(0, "b"), row(5, "c"), row(api.MaxKey+1, "b"), row(math.MaxInt64, "d"))
	orders(slices.Clone(want), func(l []api.Row) {
		rowsAre(t, "New, in some order", New(l...).All(), want...)
		x := New()
		for _, r := range l {
			told(t, "Put, in some order", true, x.Put(r.Key, r.Val))
		}
		rowsAre(t, "Put, in some order", x.All(), want...)
	})
	holds(t, "any keys", New(want...), want...)
}

// TestNewOfLikeKeys: of the rows of one key the one that came last is there, wherever the others came.
func TestNewOfLikeKeys(t *testing.T) {
	holds(t, "twice", New(row(5, "a"), row(5, "b")), row(5, "b"))
	holds(t, "the last is empty", New(row(5, "a"), row(5, "")), row(5, ""))
	holds(t, "the same twice", New(row(5, "a"), row(5, "a")), row(5, "a"))
	holds(t, "another between", New(row(5, "a"), row(3, "b"), row(5, "c")), row(3, "b"), row(5, "c"))
	orders(list(row(1, "a"), row(1, "b"), row(2, "c"), row(2, "d"), row(2, "e"), row(-1, "f")), func(l []api.Row) {
		p := plain{}
		for _, r := range l {
			p.put(r.Key, r.Val)
		}
		rowsAre(t, "like keys, in some order", New(l...).All(), p.all()...)
	})
}

// TestNewOfManyLikeKeys: so many rows that a sort that turns like ones round would be seen.
func TestNewOfManyLikeKeys(t *testing.T) {
	c := choice(1)
	for _, n := range []int{12, 13, 50, 1000, 5000} {
		l, p := make([]api.Row, n), plain{}
		for i := range l {
			l[i] = row(int64(c.below(n/4)), strconv.Itoa(i))
			p.put(l[i].Key, l[i].Val)
		}
		x := New(l...)
		rowsAre(t, "many like keys", x.All(), p.all()...)
		if x.Len() != len(p) {
			t.Errorf("many like keys: got %d, want %d", x.Len(), len(p))
		}
	}
}

func TestPut(t *testing.T) {
	x := New(row(10, "a"), row(20, "b"))
	told(t, "one that is not there", true, x.Put(15, "c"), x.Put(5, "d"), x.Put(25, "e"), x.Put(11, "f"), x.Put(19, "g"))
	holds(t, "between, below all, above all", x, row(5, "d"), row(10, "a"), row(11, "f"), row(15, "c"), row(19, "g"), row(20, "b"), row(25, "e"))
	told(t, "one that is there", false, x.Put(15, "h"), x.Put(5, ""), x.Put(25, "i"), x.Put(25, "i"), x.Put(5, "j"), x.Put(20, ""))
	holds(t, "other values", x, row(5, "j"), row(10, "a"), row(11, "f"), row(15, "h"), row(19, "g"), row(20, ""), row(25, "i"))
}

func TestPutAtTheEndsOfAllKeys(t *testing.T) {
	x := New(row(0, "a"))
	told(t, "the ends", true, x.Put(math.MaxInt64, "b"), x.Put(math.MinInt64, "c"), x.Put(-1, ""), x.Put(math.MaxInt64-1, "d"), x.Put(math.MinInt64+1, "e"))
	want := list(row(math.MinInt64, "c"), row(math.MinInt64+1, "e"), row(-1, ""), row(0, "a"), row(math.MaxInt64-1, "d"), row(math.MaxInt64, "b"))
	holds(t, "the ends", x, want...)
	for i, r := range want {
		told(t, "the ends, once more", false, x.Put(r.Key, "z"))
		want[i].Val = "z"
	}
	holds(t, "the ends, once more", x, want...)
}

func TestDel(t *testing.T) {
	x := New(row(1, "a"), row(2, "b"), row(3, "c"), row(4, ""), row(5, "e"))
	told(t, "one that is not there", false, x.Del(0), x.Del(6), x.Del(-1), x.Del(math.MinInt64), x.Del(math.MaxInt64))
	holds(t, "nothing is taken away", x, row(1, "a"), row(2, "b"), row(3, "c"), row(4, ""), row(5, "e"))
	told(t, "one that is there", true, x.Del(3))
	holds(t, "in between", x, row(1, "a"), row(2, "b"), row(4, ""), row(5, "e"))
	told(t, "one that was taken away", false, x.Del(3), x.Del(3))
	holds(t, "taken away already", x, row(1, "a"), row(2, "b"), row(4, ""), row(5, "e"))
	told(t, "the first, the last, an empty one", true, x.Del(1), x.Del(5), x.Del(4))
	holds(t, "one is left", x, row(2, "b"))
	told(t, "the only one", true, x.Del(2))
	told(t, "of none", false, x.Del(2), x.Del(3))
	holds(t, "none is left", x)
	told(t, "put anew", true, x.Put(3, "f"), x.Put(2, ""))
	holds(t, "put anew", x, row(2, ""), row(3, "f"))
}

func TestDelAtTheEndsOfAllKeys(t *testing.T) {
	x := New(row(math.MinInt64, "a"), row(0, "b"), row(math.MaxInt64, "c"))
	told(t, "beside them", false, x.Del(math.MinInt64+1), x.Del(-1), x.Del(1), x.Del(math.MaxInt64-1))
	told(t, "the least", true, x.Del(math.MinInt64))
	holds(t, "without the least", x, row(0, "b"), row(math.MaxInt64, "c"))
	told(t, "the greatest", true, x.Del(math.MaxInt64))
	holds(t, "without both", x, row(0, "b"))
	told(t, "0", true, x.Del(0))
	holds(t, "without all", x)
}

func TestGet(t *testing.T) {
	x := New(row(-7, "a"), row(0, ""), row(7, "b"))
	has(t, "New", x, -7, "a")
	has(t, "an empty one", x, 0, "")
	has(t, "New", x, 7, "b")
	lacks(t, "New", x, -8, -6, -1, 1, 6, 8, math.MinInt64, math.MaxInt64)
	x.Put(7, "c")
	x.Put(8, "d")
	has(t, "another value", x, 7, "c")
	has(t, "a new one", x, 8, "d")
	x.Put(8, "")
	has(t, "an empty one", x, 8, "")
	x.Del(7)
	x.Del(0)
	lacks(t, "taken away", x, 7, 0)
	has(t, "another one", x, 8, "")
	x.Put(7, "e")
	has(t, "put anew", x, 7, "e")
	has(t, "New", x, -7, "a")
}

func TestAfter(t *testing.T) {
	a, b, c, d := row(-5, "a"), row(0, ""), row(5, "c"), row(9, "d")
	x := New(c, a, d, b)
	rowsAre(t, "below all", x.After(-6, 9), a, b, c, d)
	rowsAre(t, "below all", x.After(math.MinInt64, 4), a, b, c, d)
	rowsAre(t, "of one that is there", x.After(-5, 9), b, c, d)
	rowsAre(t, "of one that is there, 1", x.After(0, 1), c)
	rowsAre(t, "of one that is not", x.After(1, 9), c, d)
	rowsAre(t, "of one that is not, 1", x.After(-4, 1), b)
	rowsAre(t, "of one that is not, 2", x.After(-4, 2), b, c)
	rowsAre(t, "of the last but one", x.After(5, 9), d)
	rowsAre(t, "beside the last", x.After(8, 9), d)
	rowsAre(t, "of the last", x.After(9, 9))
	rowsAre(t, "above the last", x.After(10, 9))
	rowsAre(t, "above all", x.After(math.MaxInt64, math.MaxInt))
	rowsAre(t, "as many as there are", x.After(-6, 4), a, b, c, d)
	rowsAre(t, "as many as are above", x.After(-5, 3), b, c, d)
	rowsAre(t, "one less", x.After(-6, 3), a, b, c)
	rowsAre(t, "more", x.After(-6, 5), a, b, c, d)
	rowsAre(t, "as many as may be", x.After(-6, math.MaxInt), a, b, c, d)
	for _, n := range []int{0, -1, -4, math.MinInt} {
		rowsAre(t, "none of n below 1", x.After(-6, n))
		rowsAre(t, "none of n below 1", x.After(0, n))
		rowsAre(t, "none of n below 1", x.After(9, n))
	}
	x.Del(5)
	x.Put(6, "e")
	rowsAre(t, "of one that was taken away", x.After(5, 9), row(6, "e"), d)
	rowsAre(t, "of one that came", x.After(6, 9), d)
	holds(t, "all of it", x, a, b, row(6, "e"), d)
}

func TestAfterAtTheEndsOfAllKeys(t *testing.T) {
	x := New(row(math.MaxInt64, "b"), row(math.MinInt64, "a"))
	rowsAre(t, "the least", x.After(math.MinInt64, 9), row(math.MaxInt64, "b"))
	rowsAre(t, "between", x.After(0, 9), row(math.MaxInt64, "b"))
	rowsAre(t, "ahead of the greatest", x.After(math.MaxInt64-1, 9), row(math.MaxInt64, "b"))
	rowsAre(t, "the greatest", x.After(math.MaxInt64, 9))
}

// TestPieceByPiece: each piece behind the last key of the one ahead, all rows come, once, rising.
func TestPieceByPiece(t *testing.T) {
	for rows := range 12 {
		x := New()
		for i := range rows {
			x.Put(int64(i*i-20), strconv.Itoa(i))
		}
		for n := 1; n <= rows+2; n++ {
			var l []api.Row
			last := int64(math.MinInt64)
			for piece := x.After(last, n); len(piece) > 0; piece = x.After(last, n) {
				if len(piece) > n || len(l)+len(piece) > rows {
					t.Fatalf("%d rows by %d: too many behind %d: %+v", rows, n, last, piece)
				}
				if len(piece) < n && len(l)+len(piece) < rows {
					t.Errorf("%d rows by %d: too few behind %d: %+v", rows, n, last, piece)
				}
				l = append(l, piece...)
				last = piece[len(piece)-1].Key
			}
			rowsAre(t, "piece by piece", l, x.All()...)
		}
	}
}

// TestPieceByPieceWhileRowsCome: what is put ahead of where it stands does not come, nor what was taken away behind it.
func TestPieceByPieceWhileRowsCome(t *testing.T) {
	x := New(row(1, "a"), row(3, "b"), row(5, "c"), row(7, "d"))
	rowsAre(t, "the first piece", x.After(math.MinInt64, 2), row(1, "a"), row(3, "b"))
	x.Put(2, "e")
	x.Put(4, "f")
	x.Del(3)
	x.Del(5)
	rowsAre(t, "the second piece", x.After(3, 2), row(4, "f"), row(7, "d"))
	rowsAre(t, "the last piece", x.After(7, 2))
}

// TestWhatIsHandedInStays: the list that New takes, and the room behind its end, are as they were.
func TestWhatIsHandedInStays(t *testing.T) {
	first := list(row(5, "a"), row(3, "b"), row(5, "c"), row(1, "d"), row(8, "room"), row(9, "room"))
	l := slices.Clone(first)
	x := New(l[:4]...)
	rowsAre(t, "behind New", l, first...)
	x.Put(2, "e")
	x.Put(7, "f")
	x.Put(5, "g")
	x.Del(1)
	x.Del(3)
	rowsAre(t, "behind Put and Del", l, first...)
	holds(t, "the index", x, row(2, "e"), row(5, "g"), row(7, "f"))
}

// TestWhatIsHandedInIsNotKept: whoever writes into the list that New took changes nothing of the index.
func TestWhatIsHandedInIsNotKept(t *testing.T) {
	for _, l := range [][]api.Row{
		list(row(3, "b"), row(5, "a")), list(row(5, "a"), row(3, "b")), list(row(5, "z"), row(3, "b"), row(5, "a")),
	} {
		x := New(l...)
		for i := range l {
			l[i] = row(9, "not of this")
		}
		holds(t, "its own rows", x, row(3, "b"), row(5, "a"))
	}
}

// spoil writes into all of l, and into the room behind its end.
func spoil(l []api.Row) {
	l = l[:cap(l)]
	for i := range l {
		l[i] = row(-9, "spoilt")
	}
}

func TestWhatIsHandedOutIsNew(t *testing.T) {
	want := list(row(1, "a"), row(3, "b"), row(5, "c"), row(7, "d"))
	x := New(want...)
	x.Put(9, "e")
	x.Del(9) // leaves room behind the last row
	kept := x.All()
	for key := int64(0); key < 9; key++ {
		for n := range 6 {
			spoil(x.After(key, n))
			spoil(append(x.After(key, n), row(4, "more")))
		}
	}
	spoil(x.All())
	spoil(append(x.All(), row(4, "more")))
	holds(t, "the index", x, want...)
	rowsAre(t, "an earlier answer", kept, want...)
	piece := x.After(1, 2)
	x.Put(3, "z")
	x.Put(2, "y")
	x.Del(5)
	rowsAre(t, "an earlier answer of All", kept, want...)
	rowsAre(t, "an earlier answer of After", piece, row(3, "b"), row(5, "c"))
	holds(t, "the index, changed", x, row(1, "a"), row(2, "y"), row(3, "z"), row(7, "d"))
}

// TestIndexesAreApart: what is done with one index changes nothing of another one of the same rows.
func TestIndexesAreApart(t *testing.T) {
	l := list(row(1, "a"), row(2, "b"))
	x, y := New(l...), New(l...)
	x.Put(1, "z")
	x.Del(2)
	x.Put(0, "y")
	holds(t, "one", x, row(0, "y"), row(1, "z"))
	holds(t, "the other", y, row(1, "a"), row(2, "b"))
}

// TestOneByOne puts and takes away the same rows in each order.
func TestOneByOne(t *testing.T) {
	orders(list(row(-2, "a"), row(0, ""), row(3, "c"), row(4, "d"), row(9, "e")), func(l []api.Row) {
		x, p := New(), plain{}
		for i, r := range l {
			told(t, "Put", p.put(r.Key, r.Val), x.Put(r.Key, r.Val))
			rowsAre(t, "Put", x.All(), p.all()...)
			if x.Len() != i+1 {
				t.Errorf("Put: got %d rows, want %d", x.Len(), i+1)
			}
		}
		slices.Reverse(l[1:])
		for i, r := range l {
			told(t, "Del", p.del(r.Key), x.Del(r.Key))
			rowsAre(t, "Del", x.All(), p.all()...)
			if x.Len() != len(l)-i-1 {
				t.Errorf("Del: got %d rows, want %d", x.Len(), len(l)-i-1)
			}
		}
	})
}

// TestScripts holds calls in any order against P8.1 word by word.
func TestScripts(t *testing.T) {
	c := choice(8)
	for _, keys := range []int{1, 2, 5, 40, 150} {
		for range 10 {
			script(t, &c, keys, 10*keys+20)
		}
	}
}

// script does so many steps with an index, over so many keys.
func script(t *testing.T, c *choice, keys, steps int) {
	t.Helper()
	span := func() int64 { return int64(c.below(keys)-keys/2) * (math.MaxInt64 / int64(keys)) }
	l := make([]api.Row, c.below(2*keys))
	p := plain{}
	for i := range l {
		l[i] = row(span(), strconv.Itoa(i))
		p.put(l[i].Key, l[i].Val)
	}
	x := New(l...)
	for i := range steps {
		key, val := span(), strings.Repeat("v", c.below(3))+strconv.Itoa(i)
		if c.below(5) == 0 {
			val = ""
		}
		switch c.below(3) {
		case 0:
			told(t, "Put", p.put(key, val), x.Put(key, val))
		case 1:
			told(t, "Del", p.del(key), x.Del(key))
		case 2:
			n := c.below(keys+2) - 1
			rowsAre(t, "After", x.After(key, n), after(p.all(), key, n)...)
		}
		want, there := p[key]
		if got, ok := x.Get(key); got != want || ok != there || x.Len() != len(p) {
			t.Errorf("key %d: got %q, %v, of %d, want %q, %v, of %d", key, got, ok, x.Len(), want, there, len(p))
		}
	}
	holds(t, "behind a script", New(x.All()...), p.all()...)
	holds(t, "behind a script", x, p.all()...)
}

// TestMany: as many rows as a table may have, and far more.
func TestMany(t *testing.T) {
	for _, n := range []int{api.MaxRows, 20 * api.MaxRows} {
		up, down := New(), New()
		l := make([]api.Row, n)
		for i := range n {
			l[i] = row(int64(i), strconv.Itoa(i))
			told(t, "rising", true, up.Put(int64(i), strconv.Itoa(i)))
			told(t, "falling", true, down.Put(int64(n-1-i), strconv.Itoa(n-1-i)))
		}
		rowsAre(t, "rising", up.All(), l...)
		rowsAre(t, "falling", down.All(), l...)
		rowsAre(t, "after the middle", up.After(int64(n/2), 3), l[n/2+1:n/2+4]...)
		slices.Reverse(l)
		rowsAre(t, "New of falling ones", New(l...).All(), up.All()...)
		for i := range n {
			told(t, "taken away", true, up.Del(int64(i)))
		}
		holds(t, "taken away", up)
	}
}
