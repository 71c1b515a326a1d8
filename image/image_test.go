package image

import (
	"bytes"
	"math"
	"slices"
	"strconv"
	"strings"
	"testing"

	"qanat/api"
	"qanat/field"
	"qanat/rec"
)

func TestExample(t *testing.T) {
	zero := "\x01\x00\x00\x00\x00\x00\x00\x00\x00"
	want := record([]byte("\x00\x03" + zero + "\x01\x00\x00\x00\x00\x00\x00\x00\x01" + zero))
	for _, x := range []picture{{0, tables(nil)}, {0, tables([]api.Row{})}} {
		encoded(t, "the example", x, want)
		b, _ := Encode(x.lsn, x.tables)
		if len(b) != 8+2+27 {
			t.Errorf("got %d bytes, want %d", len(b), 8+2+27)
		}
		lsn, l, e := Decode(b)
		if lsn != 0 || len(l) != 1 || len(l[0]) != 0 || e != api.OK {
			t.Errorf("got %d, %s, %d, want 0, one table without rows", lsn, told(l), e)
		}
	}
}

func TestKnownBytes(t *testing.T) {
	// How many fields there are: 2, and of the tables 1 and 4, 1, 1 and 2.
	want := record([]byte("\x00\x0b" +
		"\x01\x00\x00\x00\x01\x02\x03\x04\x05" + "\x01\x00\x00\x00\x00\x00\x00\x00\x03" +
		"\x01\x00\x00\x00\x00\x00\x00\x00\x02" +
		"\x01\x00\x00\x00\x00\x00\x00\x06\x07" + "\x02\x00\x02ab" +
		"\x01\x00\x00\x01\x00\x00\x00\x00\x00" + "\x02\x00\x00" +
		"\x01\x00\x00\x00\x00\x00\x00\x00\x00" +
		"\x01\x00\x00\x00\x00\x00\x00\x00\x01" +
		"\x01\x00\x00\x00\x00\x00\x00\x00\x01" + "\x02\x00\x01\xff"))
	x := picture{0x0102030405, tables(rows(row(0x0607, "ab"), row(api.MaxKey, "")), nil, rows(row(1, "\xff")))}
	encoded(t, "known bytes", x, want)
	decoded(t, "known bytes", want, x)
}

// TestLeansOnFieldAndRec: the bytes are those that the layers below make.
func TestLeansOnFieldAndRec(t *testing.T) {
	for what, x := range good() {
		p, e := field.Encode(list(x)...)
		if e != api.OK {
			t.Fatalf("%s: the fields' error is %d", what, e)
		}
		b, e := rec.Put(p)
		if e != api.OK {
			t.Fatalf("%s: the record's error is %d", what, e)
		}
		encoded(t, what, x, b)
	}
}

func TestGood(t *testing.T) {
	for what, x := range good() {
		b := raw(list(x)...)
		encoded(t, what, x, b)
		decoded(t, what, b, x)
		lsn, l, _ := Decode(b)
		encoded(t, what+", once more", picture{lsn, l}, b)
	}
}

func TestBad(t *testing.T) {
	for what, x := range bad() {
		refused(t, what, x)
		// What may not be may have fields all the same.
		faulty(t, what, raw(list(x)...))
	}
}

// TestMost: an image with all that one may have is one record.
func TestMost(t *testing.T) {
	b, e := Encode(api.MaxLsn, most().tables)
	want := 8 + 2 + 9 + 9 + api.MaxTables*(9+api.MaxRows*(9+3+api.MaxVal))
	if e != api.OK || len(b) != want {
		t.Errorf("got %d bytes, %d, want %d", len(b), e, want)
	}
	decoded(t, "the most", b, most())
}

// TestLsns goes through the lsns, with tables that may be and that may not.
func TestLsns(t *testing.T) {
	for _, lsn := range []int64{math.MinInt64, math.MinInt64 + 1, -1 << 41, -api.MaxLsn, -256, -2, -1, 0, 1, 2, 127, 128, 255, 256, 1 << 31, 1 << 32, api.MaxLsn - 1, api.MaxLsn, api.MaxLsn + 1, 1<<40 + 256, 1 << 41, 1<<56 + 1, math.MaxInt64} {
		for _, l := range [][][]api.Row{nil, tables(nil), tables(keys(1, 2), keys(3)), tables(keys(0)), make([][]api.Row, api.MaxTables+1)} {
			right(t, "lsn "+strconv.FormatInt(lsn, 10), picture{lsn, l})
		}
	}
}

func TestHowManyTables(t *testing.T) {
	for n := range 3 * api.MaxTables {
		x := picture{1, make([][]api.Row, n)}
		right(t, strconv.Itoa(n)+" tables without rows", x)
		for i := range x.tables {
			x.tables[i] = keys(int64(i)+1, 100-int64(i))
		}
		right(t, strconv.Itoa(n)+" tables", x)
		if _, e := Encode(1, x.tables); (e == api.OK) != (n >= 1 && n <= 8) {
			t.Errorf("%d tables: got %d", n, e)
		}
	}
}

func TestHowManyRows(t *testing.T) {
	for _, n := range []int{0, 1, 2, 255, 256, 257, api.MaxRows - 1, api.MaxRows, api.MaxRows + 1, api.MaxRows + 2, 1024} {
		for _, x := range []picture{
			{1, tables(many(n, 5000))}, {1, tables(nil, many(n, 5000))}, {1, tables(many(n, api.MaxKey), keys(1), nil)},
			{1, tables(keys(2), many(n, int64(n)), keys(1))},
		} {
			b, e := Encode(x.lsn, x.tables)
			if n > 1000 {
				refused(t, strconv.Itoa(n)+" rows", x)
				faulty(t, strconv.Itoa(n)+" rows", raw(list(x)...))
				continue
			}
			if e != api.OK || !bytes.Equal(b, raw(list(x)...)) {
				t.Errorf("%d rows: got %d bytes, %d", n, len(b), e)
			}
			decoded(t, strconv.Itoa(n)+" rows", raw(list(x)...), x)
		}
	}
}

// TestKeys goes through keys by ones, twos and threes: whether they may be, and whether they rise.
func TestKeys(t *testing.T) {
	edges := []int64{math.MinInt64, -api.MaxKey, -1, 0, 1, 2, 3, 256, 1 << 32, 1<<32 + 1, api.MaxKey - 1, api.MaxKey, api.MaxKey + 1, 1<<41 + 5, math.MaxInt64}
	for _, a := range edges {
		right(t, "a key", picture{1, tables(keys(a))})
		for _, b := range edges {
			right(t, "two keys", picture{1, tables(keys(a, b))})
			right(t, "two keys of two tables", picture{1, tables(keys(a), keys(b))})
			for _, c := range edges {
				right(t, "three keys", picture{1, tables(nil, keys(a, b, c))})
				right(t, "three keys of two tables", picture{1, tables(keys(a), keys(b, c))})
			}
		}
	}
}

// TestOrders: of all orders of some keys the rising one alone may be.
func TestOrders(t *testing.T) {
	n := 0
	orders(keys(2, 3, 5, 8, 9), 0, func(l []api.Row) {
		x := picture{1, tables(nil, l)}
		right(t, "an order", x)
		if _, e := Encode(x.lsn, x.tables); e == api.OK {
			n++
		}
	})
	if n != 1 {
		t.Errorf("%d orders may be, want one", n)
	}
}

// orders tells all orders of l, of which the first few rows stand.
func orders(l []api.Row, stand int, tell func([]api.Row)) {
	if stand == len(l) {
		tell(l)
		return
	}
	for i := stand; i < len(l); i++ {
		l[stand], l[i] = l[i], l[stand]
		orders(l, stand+1, tell)
		l[stand], l[i] = l[i], l[stand]
	}
}

func TestVals(t *testing.T) {
	for n := range 3 * api.MaxVal {
		val := strings.Repeat("x", n)
		for _, x := range []picture{
			{1, tables(rows(row(1, val)))}, {1, tables(rows(row(1, val), row(2, "")))}, {1, tables(rows(row(1, ""), row(2, val)))},
			{1, tables(nil, keys(1, 2), rows(row(1, "a"), row(2, val), row(3, "b")), nil)},
		} {
			right(t, "a val of "+strconv.Itoa(n)+" bytes", x)
			if _, e := Encode(x.lsn, x.tables); (e == api.OK) != (n <= 32) {
				t.Errorf("a val of %d bytes: got %d", n, e)
			}
		}
	}
	for v := range 256 {
		right(t, "a val of byte "+strconv.Itoa(v), picture{1, tables(rows(row(1, string([]byte{byte(v)})), row(2, string([]byte{byte(v), 0, byte(v)}))))})
	}
}

// TestImages goes through images of all kinds.
func TestImages(t *testing.T) {
	c := choice(7)
	ok := 0
	for range 3000 {
		x := picture{int64(c.below(1 << 20)), make([][]api.Row, 1+c.below(api.MaxTables))}
		for i := range x.tables {
			x.tables[i] = anyTable(&c)
		}
		right(t, "any image", x)
		if plainMay(x) {
			ok++
		}
		if t.Failed() {
			t.FailNow() // the others would be told as wrong, too
		}
	}
	if ok < 1000 || ok > 2900 {
		t.Errorf("%d of 3000 may be", ok)
	}
}

// anyTable is any rows, which rise nearly always.
func anyTable(c *choice) []api.Row {
	l := make([]api.Row, c.below(12))
	key := int64(0)
	for i := range l {
		key += int64(c.below(1<<30)) + 1
		if c.below(200) == 0 {
			key -= 1 << 30
		}
		l[i] = row(key, strings.Repeat("z", c.below(api.MaxVal+1)))
	}
	return l
}

// clone is x with lists of its own, with room behind their ends.
func clone(x picture) picture {
	n := len(x.tables)
	x.tables = append(slices.Clone(x.tables), keys(9), keys(8, 7))[:n]
	for i, l := range x.tables {
		x.tables[i] = append(slices.Clone(l), row(6, "room"), row(-1, "behind"))[:len(l)]
	}
	return x
}

// withRoom is all that x holds, with what lies behind the ends of its lists.
func withRoom(x picture) [][]api.Row {
	l := slices.Clone(x.tables[:len(x.tables)+2])
	for i, r := range x.tables {
		l[i] = r[:len(r)+2]
	}
	return l
}

// spoil writes into all of l, and into the room behind its end.
func spoil(l []api.Row) {
	l = l[:cap(l)]
	for i := range l {
		l[i] = row(-9, "spoilt")
	}
}

// spoilAll writes into all tables of l, and into the room behind their ends.
func spoilAll(l [][]api.Row) {
	for _, rows := range l {
		spoil(rows)
	}
	l = l[:cap(l)]
	for i := range l {
		l[i] = keys(-9)
	}
}

func TestHandedInIsNotChanged(t *testing.T) {
	all := good()
	for what, x := range bad() {
		all["bad: "+what] = x
	}
	for what, x := range all {
		a, b := clone(x), clone(x)
		Encode(a.lsn, a.tables)
		if !same(withRoom(a), withRoom(b)) {
			t.Errorf("%s: the tables were changed", what)
		}
		first := raw(list(x)...)
		room := append(slices.Clone(first), "behind the end"...)
		kept := slices.Clone(room)
		_, l, _ := Decode(room[:len(first)])
		spoilAll(l)
		Decode(room)
		if !bytes.Equal(room, kept) {
			t.Errorf("%s: the bytes were changed", what)
		}
	}
}

func TestHandedInIsNotKept(t *testing.T) {
	for what, first := range map[string]picture{"several": several(), "most": most()} {
		x, want := clone(first), raw(list(first)...)
		b, _ := Encode(x.lsn, x.tables)
		spoilAll(x.tables)
		if !bytes.Equal(b, want) {
			t.Errorf("%s: what was encoded hangs on the tables", what)
		}
		_, l, _ := Decode(b)
		clear(b[:cap(b)])
		if !same(l, first.tables) {
			t.Errorf("%s: what was decoded hangs on the bytes", what)
		}
	}
}

func TestHandedOutIsNew(t *testing.T) {
	for what, x := range map[string]picture{"several": several(), "most": most(), "of rising keys": {5, tables(keys(1, 2, 3), keys(4), keys(5))}} {
		want := raw(list(x)...)
		a, _ := Encode(x.lsn, x.tables)
		b, _ := Encode(x.lsn, x.tables)
		clear(a[:cap(a)])
		encoded(t, what, x, want)
		if !bytes.Equal(b, want) {
			t.Errorf("%s: two answers of Encode share memory", what)
		}
		_, first, _ := Decode(b)
		_, second, _ := Decode(b)
		for i := range first {
			_, l, _ := Decode(b)
			spoil(l[i])
			if !same(slices.Delete(l, i, i+1), slices.Delete(slices.Clone(x.tables), i, i+1)) {
				t.Errorf("%s: table %d shares memory with another one of its answer", what, i)
			}
		}
		spoilAll(first)
		if !same(second, x.tables) {
			t.Errorf("%s: two answers of Decode share memory", what)
		}
		decoded(t, what, b, x)
	}
}
