package batch

import (
	"bytes"
	"encoding/binary"
	"fmt"
	"math"
	"slices"
	"strings"
	"testing"

	"qanat/api"
	"qanat/field"
)

// same tells whether a and b have the same fields and the same elements; nil and an empty list are the same.
func same(a, b api.Item) bool {
	return a.Lsn == b.Lsn && slices.Equal(a.Ops, b.Ops) && slices.Equal(a.Notes, b.Notes)
}

// item is an item of those ops and notes.
func item(lsn int64, ops []api.Op, notes ...api.Note) api.Item {
	return api.Item{Lsn: lsn, Ops: ops, Notes: notes}
}

// someOps is n ops of an item of that Lsn, no two the same.
func someOps(lsn int64, n int) []api.Op {
	l := make([]api.Op, n)
	for i := range l {
		l[i] = api.Op{Lsn: max(lsn-int64(i), 1), Table: i % 8, Key: int64(i)*0x1234567 + 1, Gone: i%3 == 2}
		if !l[i].Gone {
			l[i].Val = strings.Repeat(string(rune('a'+i%26)), (i*5+1)%33)
		}
	}
	return l
}

// someNotes is n notes of an item of that Lsn, of both Kinds.
func someNotes(lsn int64, n int) []api.Note {
	l := make([]api.Note, n)
	for i := range l {
		if i%2 == 0 {
			l[i] = accept(i%64+1, i%8, i/2%8+1, max(lsn-int64(i), 1))
		} else {
			l[i] = chunk(i%64+1, int64(i)*0x7654321, i%3 == 0)
		}
	}
	return l
}

// some is an item of so many ops and notes.
func some(lsn int64, ops, notes int) api.Item {
	return item(lsn, someOps(lsn, ops), someNotes(lsn, notes)...)
}

// accept is a note of a request that is accepted.
func accept(id, table, weight int, at int64) api.Note {
	return api.Note{Kind: api.NoteAccept, ID: id, Table: table, Weight: weight, At: at}
}

// chunk is a note of a chunk.
func chunk(id int, cursor int64, done bool) api.Note {
	return api.Note{Kind: api.NoteChunk, ID: id, Cursor: cursor, Done: done}
}

// short is v as text, with a greater one cut.
func short(v any) string {
	s := fmt.Sprintf("%#v", v)
	if len(s) > 600 {
		return s[:600] + " .."
	}
	return s
}

// within tells whether n is from least to most.
func within(n, least, most int64) bool { return n >= least && n <= most }

// plainMay is the chapter's words, one by one.
func plainMay(x api.Item) bool {
	if !within(x.Lsn, 1, 1<<40) || len(x.Ops) > 4096 || len(x.Notes) > 256 {
		return false
	}
	for _, o := range x.Ops {
		if !within(o.Lsn, 1, x.Lsn) || !within(int64(o.Table), 0, 7) || !within(o.Key, 1, 1<<40) || len(o.Val) > 32 || o.Gone && len(o.Val) > 0 {
			return false
		}
	}
	for _, n := range x.Notes {
		ok := within(int64(n.ID), 1, 64)
		switch n.Kind {
		case 1:
			ok = ok && within(int64(n.Table), 0, 7) && within(int64(n.Weight), 1, 8) && within(n.At, 1, x.Lsn) && n.Cursor == 0 && !n.Done
		case 2:
			ok = ok && n.Table == 0 && n.Weight == 0 && n.At == 0 && within(n.Cursor, 0, 1<<40)
		default:
			ok = false
		}
		if !ok {
			return false
		}
	}
	return true
}

// num is a field of a number.
func num(n int64) api.Field { return api.Field{Kind: api.FieldInt, N: n} }

// yes is a field of 1 or 0.
func yes(b bool) api.Field {
	if b {
		return num(1)
	}
	return num(0)
}

// str is a field of a text.
func str(s string) api.Field { return api.Field{Kind: api.FieldText, S: s} }

// list is the fields that P16.1 lists, of whatever item.
func list(x api.Item) []api.Field {
	l := []api.Field{num(x.Lsn), num(int64(len(x.Ops)))}
	for _, o := range x.Ops {
		l = append(l, num(o.Lsn), num(int64(o.Table)), num(o.Key), yes(o.Gone), str(o.Val))
	}
	l = append(l, num(int64(len(x.Notes))))
	for _, n := range x.Notes {
		l = append(l, num(int64(n.Kind)), num(int64(n.ID)), num(int64(n.Table)), num(int64(n.Weight)), num(n.At), num(n.Cursor), yes(n.Done))
	}
	return l
}

// raw is the bytes of fields as P2.1 has them, by the library's means alone.
func raw(l ...api.Field) []byte {
	b := binary.BigEndian.AppendUint16(nil, uint16(len(l)))
	for _, f := range l {
		b = append(b, byte(f.Kind))
		if f.Kind == api.FieldInt {
			b = binary.BigEndian.AppendUint64(b, uint64(f.N))
			continue
		}
		b = binary.BigEndian.AppendUint16(b, uint16(len(f.S)))
		b = append(b, f.S...)
	}
	return b
}

// guess makes an item of whatever fields: what it is, if they are of one.
func guess(l []api.Field) api.Item {
	x := api.Item{Lsn: next(&l).N}
	for range min(max(next(&l).N, 0), 4097) {
		if len(l) == 0 {
			return x // what lacks its fields is not one that has these bytes
		}
		o := api.Op{Lsn: next(&l).N, Table: int(next(&l).N), Key: next(&l).N, Gone: next(&l).N != 0, Val: next(&l).S}
		x.Ops = append(x.Ops, o)
	}
	for range min(max(next(&l).N, 0), 257) {
		if len(l) == 0 {
			return x
		}
		n := api.Note{Kind: int(next(&l).N), ID: int(next(&l).N), Table: int(next(&l).N), Weight: int(next(&l).N), At: next(&l).N, Cursor: next(&l).N, Done: next(&l).N != 0}
		x.Notes = append(x.Notes, n)
	}
	return x
}

// next takes the first of l away; it is zero, if there is none.
func next(l *[]api.Field) api.Field {
	if len(*l) == 0 {
		return api.Field{}
	}
	f := (*l)[0]
	*l = (*l)[1:]
	return f
}

// may holds May and Encode of x against the chapter's words, and what its fields are decoded as; it tells whether x may be.
func may(t *testing.T, what string, x api.Item) bool {
	t.Helper()
	want := plainMay(x)
	if got := May(x); got != want {
		t.Errorf("%s: May(%s): got %v, want %v", what, short(x), got, want)
	}
	b, e := Encode(x)
	if !want {
		if len(b) != 0 || e != api.ErrArg {
			t.Errorf("%s: Encode(%s): got % .100x, %d, want ErrArg alone", what, short(x), b, e)
		}
		if b, e := field.Encode(list(x)...); e == api.OK { // what may not be may have fields all the same
			faulty(t, what, b, api.ErrForm)
		}
		return false
	}
	if bytes := raw(list(x)...); e != api.OK || !slices.Equal(b, bytes) {
		t.Errorf("%s: Encode(%s): got % .300x, %d, want % .300x", what, short(x), b, e, bytes)
	}
	decoded(t, what, b, x)
	return true
}

// mayBe asks that x may be, and what follows from that.
func mayBe(t *testing.T, what string, x api.Item) {
	t.Helper()
	if !may(t, what, x) {
		t.Errorf("%s: %s may be", what, short(x))
	}
}

// mayNotBe asks that x may not be, and what follows from that.
func mayNotBe(t *testing.T, what string, x api.Item) {
	t.Helper()
	if may(t, what, x) {
		t.Errorf("%s: %s may not be", what, short(x))
	}
}

// decoded asks that Decode answers that item.
func decoded(t *testing.T, what string, b []byte, want api.Item) {
	t.Helper()
	if got, e := Decode(b); e != api.OK || !same(got, want) {
		t.Errorf("%s: Decode(% .300x): got %s, %d, want %s", what, b, short(got), e, short(want))
	}
}

// faulty asks that Decode answers that error, and nothing else.
func faulty(t *testing.T, what string, b []byte, want api.Errno) {
	t.Helper()
	if got, e := Decode(b); e != want || !same(got, api.Item{}) {
		t.Errorf("%s: Decode(% .300x): got %s, %d, want %d alone", what, b, short(got), e, want)
	}
}

// right holds Decode against P16.1: b is of an item if the one that its fields look like has these bytes, and may be.
func right(t *testing.T, what string, b []byte) bool {
	t.Helper()
	l, fe := field.Decode(b)
	if fe != api.OK {
		faulty(t, what, b, fe)
		return false
	}
	x := guess(l)
	if !plainMay(x) || !bytes.Equal(raw(list(x)...), b) {
		faulty(t, what, b, api.ErrForm)
		return false
	}
	decoded(t, what, b, x)
	if c, e := Encode(x); e != api.OK || !bytes.Equal(b, c) {
		t.Errorf("%s: % .300x is encoded as % .300x, %d", what, b, c, e)
	}
	return true
}

// joins asks that Join answers that item.
func joins(t *testing.T, what string, want api.Item, l ...api.Item) {
	t.Helper()
	if got, e := Join(l...); e != api.OK || !same(got, want) {
		t.Errorf("%s: Join(%s): got %s, %d, want %s", what, short(l), short(got), e, short(want))
	}
}

// joinsNot asks that Join answers that error, and nothing else.
func joinsNot(t *testing.T, what string, want api.Errno, l ...api.Item) {
	t.Helper()
	if got, e := Join(l...); e != want || !same(got, api.Item{}) {
		t.Errorf("%s: Join(%s): got %s, %d, want %d alone", what, short(l), short(got), e, want)
	}
}

// plainJoin is P16.2, word by word.
func plainJoin(l []api.Item) (api.Item, api.Errno) {
	var x api.Item
	rises := true
	for i, y := range l {
		if !plainMay(y) {
			return api.Item{}, api.ErrArg
		}
		rises = rises && (i == 0 || l[i-1].Lsn < y.Lsn)
		x = item(y.Lsn, append(x.Ops, y.Ops...), append(x.Notes, y.Notes...)...)
	}
	if len(l) == 0 || len(x.Ops) > 4096 || len(x.Notes) > 256 {
		return api.Item{}, api.ErrArg
	}
	if !rises {
		return api.Item{}, api.ErrOrder
	}
	return x, api.OK
}

// joinedAsPlain holds Join against the chapter's words, and tells the error.
func joinedAsPlain(t *testing.T, what string, l ...api.Item) api.Errno {
	t.Helper()
	want, we := plainJoin(l)
	if got, e := Join(l...); e != we || !same(got, want) {
		t.Errorf("%s: Join(%s): got %s, %d, want %s, %d", what, short(l), short(got), e, short(want), we)
	}
	return we
}

// far is numbers around those bounds, and far away from them, with those that look like them when they are cut to fewer bits.
func far(least, most int64) []int64 {
	l := []int64{math.MinInt64, math.MinInt64 + 1, math.MinInt32, -1 << 40, -256, -64, -8, -2, -1, 0, 1, 2, 3, 63, 64, 65, 255, 256, 257, 1<<40 - 1, 1 << 40, 1<<40 + 1, 1 << 62, math.MaxInt64 - 1, math.MaxInt64}
	for _, n := range []int64{least, most} {
		l = append(l, n-1, n, n+1, n+1<<8, n+1<<16, n+1<<32, n-1<<32, n+1<<41)
	}
	return l
}

// choice tells numbers that look like chance, and are the same in each run.
type choice uint64

// below is the next number, from 0 to one less than n.
func (c *choice) below(n int) int {
	*c = *c*6364136223846793005 + 1442695040888963407
	return int(uint64(*c) >> 33 % uint64(n))
}

// of is one of those numbers.
func (c *choice) of(l ...int64) int64 { return l[c.below(len(l))] }
