package image

import (
	"bytes"
	"encoding/binary"
	"hash/crc32"
	"math"
	"slices"
	"strconv"
	"strings"
	"testing"

	"qanat/api"
)

// row is a row of that key and that val.
func row(key int64, val string) api.Row { return api.Row{Key: key, Val: val} }

// rows is a list of rows.
func rows(l ...api.Row) []api.Row { return l }

// tables is a list of tables.
func tables(l ...[]api.Row) [][]api.Row { return l }

// keys is rows of those keys, with vals that tell them apart.
func keys(l ...int64) []api.Row {
	x := make([]api.Row, len(l))
	for i, key := range l {
		x[i] = row(key, strconv.Itoa(i))
	}
	return x
}

// many is n rows of rising keys, up to key, with vals of all lengths that may be.
func many(n int, key int64) []api.Row {
	l := make([]api.Row, n)
	for i := range l {
		l[i] = row(key-int64(n-1-i), strings.Repeat(string(rune('a'+i%26)), i%(api.MaxVal+1)))
	}
	return l
}

// picture is what an image holds.
type picture struct {
	lsn    int64
	tables [][]api.Row
}

// most is an image with all that one may have.
func most() picture {
	x := picture{api.MaxLsn, make([][]api.Row, api.MaxTables)}
	for i := range x.tables {
		x.tables[i] = many(api.MaxRows, api.MaxKey)
		for k := range x.tables[i] {
			x.tables[i][k].Val = strings.Repeat("v", api.MaxVal)
		}
	}
	return x
}

// several is an image of some tables.
func several() picture {
	return picture{0x0102030405, tables(rows(row(1, "a"), row(0x0607, "bcd"), row(api.MaxKey, "")), nil, rows(row(7, "\xff\x00")), nil)}
}

// small is images of few bytes, so that each byte and each field of them may be changed.
func small() map[string]picture {
	return map[string]picture{
		"the least":         {0, tables(nil)},
		"of MaxLsn":         {api.MaxLsn, tables(nil)},
		"of one row":        {1, tables(rows(row(3, "v3")))},
		"of two empty":      {9, tables(nil, nil)},
		"of all tables":     {2, make([][]api.Row, api.MaxTables)},
		"several":           several(),
		"of rising keys":    {5, tables(keys(1, 2, 3), keys(4))},
		"of falling tables": {5, tables(keys(4, 5), keys(1, 2), keys(1))},
	}
}

// good is images that may be: both ends of all that the chapter names.
func good() map[string]picture {
	m := small()
	m["most"] = most()
	m["of an empty list"] = picture{0, tables([]api.Row{})}
	for _, lsn := range []int64{0, 1, 2, 255, 256, 1 << 32, api.MaxLsn - 1, api.MaxLsn} {
		m["of the lsn "+strconv.FormatInt(lsn, 10)] = picture{lsn, tables(keys(1))}
	}
	for what, l := range goodTables() {
		m["of a table "+what] = picture{1, tables(l)}
		for i := range api.MaxTables {
			x := picture{1, make([][]api.Row, api.MaxTables)}
			x.tables[i] = l
			m["of a table "+what+", at "+strconv.Itoa(i)] = x
		}
	}
	return m
}

// bad is images that may not be, each for one reason alone.
func bad() map[string]picture {
	m := map[string]picture{
		"without tables":     {0, nil},
		"of an empty list":   {0, [][]api.Row{}},
		"of MaxTables + 1":   {0, make([][]api.Row, api.MaxTables+1)},
		"of many tables":     {0, make([][]api.Row, 1000)},
		"of rows in a ninth": {0, append(make([][]api.Row, api.MaxTables), keys(1))},
	}
	for _, lsn := range []int64{math.MinInt64, -api.MaxLsn, -1, api.MaxLsn + 1, 1 << 41, math.MaxInt64} {
		m["of the lsn "+strconv.FormatInt(lsn, 10)] = picture{lsn, tables(keys(1))}
		m["of the lsn "+strconv.FormatInt(lsn, 10)+", empty"] = picture{lsn, tables(nil)}
	}
	for what, l := range badTables() {
		m["of a table "+what] = picture{1, tables(l)}
		for i := range api.MaxTables {
			x := picture{1, make([][]api.Row, api.MaxTables)}
			x.tables[i] = l
			m["of a table "+what+", at "+strconv.Itoa(i)] = x
		}
	}
	return m
}

// goodTables is the rows of tables that an image may have.
func goodTables() map[string][]api.Row {
	long := strings.Repeat("v", api.MaxVal)
	return map[string][]api.Row{
		"without rows":         nil,
		"of the least key":     keys(1),
		"of MaxKey":            keys(api.MaxKey),
		"of MaxKey - 1":        keys(api.MaxKey - 1),
		"of both ends":         keys(1, api.MaxKey),
		"of neighbours":        keys(1, 2, 3),
		"of the last keys":     keys(api.MaxKey-2, api.MaxKey-1, api.MaxKey),
		"of no val":            rows(row(5, "")),
		"of MaxVal bytes":      rows(row(5, long)),
		"of one byte less":     rows(row(5, long[1:])),
		"of bytes, not runes":  rows(row(5, "\xff\x00\xfe")),
		"of 16 runes, 32 long": rows(row(5, strings.Repeat("ü", api.MaxVal/2))),
		"of the same vals":     rows(row(5, "a"), row(6, "a")),
		"of falling vals":      rows(row(5, "b"), row(6, "a")),
		"of MaxRows - 1":       many(api.MaxRows-1, api.MaxKey),
		"of MaxRows":           many(api.MaxRows, api.MaxRows),
	}
}

// badTables is the rows of tables that no image may have.
func badTables() map[string][]api.Row {
	long := strings.Repeat("v", api.MaxVal+1)
	return map[string][]api.Row{
		"of MaxRows + 1":       many(api.MaxRows+1, api.MaxKey),
		"of many rows":         many(3*api.MaxRows, api.MaxKey),
		"of a key 0":           keys(0),
		"of a key 0, then 1":   keys(0, 1),
		"of a key -1":          keys(-1),
		"of the least number":  keys(math.MinInt64),
		"of -1, 0, 1":          keys(-1, 0, 1),
		"of MaxKey + 1":        keys(api.MaxKey + 1),
		"of MaxKey + 1, last":  keys(1, api.MaxKey, api.MaxKey+1),
		"of the last number":   keys(1, math.MaxInt64),
		"of one key twice":     keys(3, 3),
		"of a first key twice": keys(1, 1, 2),
		"of a last key twice":  keys(1, api.MaxKey, api.MaxKey),
		"of one row twice":     rows(row(3, "a"), row(3, "a")),
		"of falling keys":      keys(4, 3),
		"of a fall at the end": keys(1, 2, 9, 8),
		"of a fall, then more": keys(1, 5, 2, 6),
		"of a fall to 0":       keys(1, 2, 0),
		"of MaxVal + 1 bytes":  rows(row(1, long)),
		"of a long first val":  rows(row(1, long), row(2, "")),
		"of a long last val":   rows(row(1, ""), row(2, long)),
		"of far more bytes":    rows(row(1, strings.Repeat("v", 300))),
		"of MaxText bytes":     rows(row(1, strings.Repeat("v", api.MaxText))),
		"of more than a text":  rows(row(1, strings.Repeat("v", api.MaxText+1))),
		"of runes, too many":   rows(row(1, strings.Repeat("ü", api.MaxVal/2)+"x")),
	}
}

// plainMay is the chapter's words, one by one.
func plainMay(x picture) bool {
	ok := x.lsn >= 0 && x.lsn <= 1<<40 && len(x.tables) >= 1 && len(x.tables) <= 8
	for _, l := range x.tables {
		ok = ok && len(l) <= 1000
		for i, r := range l {
			ok = ok && r.Key >= 1 && r.Key <= 1<<40 && len(r.Val) <= 32
			for _, ahead := range l[:i] {
				ok = ok && ahead.Key < r.Key
			}
		}
	}
	return ok
}

// num is a field of a number.
func num(n int64) api.Field { return api.Field{Kind: api.FieldInt, N: n} }

// str is a field of a text.
func str(s string) api.Field { return api.Field{Kind: api.FieldText, S: s} }

// list is the fields that P10.1 lists, of whatever image.
func list(x picture) []api.Field {
	l := []api.Field{num(x.lsn), num(int64(len(x.tables)))}
	for _, rows := range x.tables {
		l = append(l, num(int64(len(rows))))
		for _, r := range rows {
			l = append(l, num(r.Key), str(r.Val))
		}
	}
	return l
}

// laid is the bytes of fields as P2.1 has them, by the library's means alone.
func laid(l ...api.Field) []byte {
	b := binary.BigEndian.AppendUint16(nil, uint16(len(l)))
	for _, f := range l {
		b = append(b, byte(f.Kind))
		if f.Kind == api.FieldInt {
			b = binary.BigEndian.AppendUint64(b, uint64(f.N))
			continue
		}
		b = binary.BigEndian.AppendUint16(b, uint16(len(f.S)))
		b = append(b, f.S...)
	}
	return b
}

// record is the record that holds p, as P3.1 has it, by the library's means alone.
func record(p []byte) []byte {
	b := binary.BigEndian.AppendUint32(nil, uint32(len(p)))
	b = binary.BigEndian.AppendUint32(b, crc32.ChecksumIEEE(append(b, p...)))
	return append(b, p...)
}

// raw is the record of those fields.
func raw(l ...api.Field) []byte { return record(laid(l...)) }

// same tells whether a and b have the same tables, each with the same rows; nil and an empty list are the same.
func same(a, b [][]api.Row) bool {
	return slices.EqualFunc(a, b, slices.Equal[[]api.Row])
}

// told is the first of some tables, as a text of plain letters.
func told(l [][]api.Row) string {
	text := strconv.Itoa(len(l)) + " tables:"
	for _, rows := range l[:min(api.MaxTables, len(l))] {
		text += " " + strconv.Itoa(len(rows)) + "["
		for _, r := range rows[:min(3, len(rows))] {
			text += "{" + strconv.FormatInt(r.Key, 10) + " " + strconv.Quote(r.Val[:min(40, len(r.Val))]) + "}"
		}
		text += "]"
	}
	return text
}

// encoded asks that Encode answers those bytes.
func encoded(t *testing.T, what string, x picture, want []byte) {
	t.Helper()
	b, e := Encode(x.lsn, x.tables)
	if e != api.OK || !bytes.Equal(b, want) {
		t.Errorf("Encode of %s: got %d bytes (% .100x), %d, want %d (% .100x)", what, len(b), b, e, len(want), want)
	}
}

// refused asks that Encode answers ErrArg, and nothing else.
func refused(t *testing.T, what string, x picture) {
	t.Helper()
	if b, e := Encode(x.lsn, x.tables); e != api.ErrArg || len(b) != 0 {
		t.Errorf("Encode of %s: got %d bytes, %d, want ErrArg alone", what, len(b), e)
	}
}

// decoded asks that Decode answers that image.
func decoded(t *testing.T, what string, b []byte, want picture) {
	t.Helper()
	if lsn, l, e := Decode(b); e != api.OK || lsn != want.lsn || !same(l, want.tables) {
		t.Errorf("Decode of %s: got %d, %s, %d, want %d, %s", what, lsn, told(l), e, want.lsn, told(want.tables))
	}
}

// faulty asks that Decode answers ErrForm, and nothing else.
func faulty(t *testing.T, what string, b []byte) {
	t.Helper()
	if lsn, l, e := Decode(b); e != api.ErrForm || lsn != 0 || len(l) != 0 {
		t.Errorf("Decode of %s (% .100x): got %d, %s, %d, want ErrForm alone", what, b, lsn, told(l), e)
	}
}

// right holds both calls against P10.1, word by word.
func right(t *testing.T, what string, x picture) {
	t.Helper()
	if plainMay(x) {
		encoded(t, what, x, raw(list(x)...))
		decoded(t, what, raw(list(x)...), x)
		return
	}
	refused(t, what, x)
	faulty(t, what, raw(list(x)...))
}

// choice tells numbers that look like chance, and are the same in each run.
type choice uint64

// below is the next number, from 0 to one less than n.
func (c *choice) below(n int) int {
	*c = *c*6364136223846793005 + 1442695040888963407
	return int(uint64(*c) >> 33 % uint64(n))
}
