package image

import (
	"bytes"
	"encoding/binary"
	"math"
	"slices"
	"strconv"
	"strings"
	"testing"

	"qanat/api"
	"qanat/field"
)

func TestDecodeOfNoBytes(t *testing.T) {
	faulty(t, "nil", nil)
	faulty(t, "no bytes", []byte{})
	for n := range 20 {
		faulty(t, "zeros", make([]byte, n))
		faulty(t, "ones", bytes.Repeat([]byte{1}, n))
		faulty(t, "255s", bytes.Repeat([]byte{255}, n))
	}
}

// TestDecodeOfACutRecord: a record of which bytes lack at the end, or at the front.
func TestDecodeOfACutRecord(t *testing.T) {
	for what, x := range small() {
		b := raw(list(x)...)
		for n := range b {
			faulty(t, what+", cut", b[:n])
			faulty(t, what+", cut, with room behind", slices.Clone(b)[:n])
			faulty(t, what+", without its front", b[n+1:])
		}
	}
	b := raw(list(most())...)
	for n := 0; n < len(b); n += 30011 {
		faulty(t, "the most, cut", b[:n])
	}
	faulty(t, "the most but a byte", b[:len(b)-1])
}

func TestDecodeWithBytesBehind(t *testing.T) {
	for what, x := range small() {
		b := raw(list(x)...)
		for v := range 256 {
			faulty(t, what+", with a byte more", append(slices.Clone(b), byte(v)))
		}
		for _, more := range [][]byte{b, record(nil), make([]byte, 8), raw(num(0)), raw(list(several())...), []byte("abc")} {
			faulty(t, what+", with more", slices.Concat(b, more))
			faulty(t, what+", with more ahead", slices.Concat(more, b))
		}
	}
	b := raw(list(most())...)
	faulty(t, "the most, with a byte more", append(b, 0))
}

// TestDecodeOfAWrongSum: whatever bit is another one, the record is none.
func TestDecodeOfAWrongSum(t *testing.T) {
	for what, x := range small() {
		b := raw(list(x)...)
		for at := range b {
			for bit := range 8 {
				b[at] ^= 1 << bit
				faulty(t, what+", another bit at "+strconv.Itoa(at), b)
				b[at] ^= 1 << bit
			}
		}
		decoded(t, what, b, x)
	}
}

// TestDecodeOfRecords: records that hold no fields.
func TestDecodeOfRecords(t *testing.T) {
	whole := laid(list(several())...)
	for what, p := range map[string][]byte{
		"nothing":                     nil,
		"a byte":                      {0},
		"no fields":                   {0, 0},
		"three bytes":                 {1, 2, 3},
		"a count alone":               {0, 3},
		"a count that is too high":    {0x80, 0},
		"a kind that is none":         {0, 3, 3},
		"a kind 0":                    {0, 3, 0},
		"half a number":               {0, 3, 1, 0, 0},
		"a text that is too long":     {0, 1, 2, 0x10, 1},
		"a text that lacks bytes":     {0, 1, 2, 0, 2, 'a'},
		"a text":                      {0, 1, 2, 0, 1, 'a'},
		"one told more than there is": append([]byte{whole[0], whole[1] + 1}, whole[2:]...),
		"one told less than there is": append([]byte{whole[0], whole[1] - 1}, whole[2:]...),
		"an image as a record":        record(whole),
		"the most that there may be":  bytes.Repeat([]byte{1}, api.MaxRecord),
		"zeros":                       make([]byte, api.MaxRecord),
		"one more than there may be":  make([]byte, api.MaxRecord+1),
	} {
		faulty(t, what, record(p))
	}
	for n := range whole {
		faulty(t, "fields, cut", record(whole[:n]))
	}
	for v := range 256 {
		faulty(t, "fields with a byte more", record(append(slices.Clone(whole), byte(v))))
	}
	faulty(t, "fields twice", record(slices.Concat(whole, whole)))
	faulty(t, "fields that are no record", whole)
}

// guess makes an image of whatever fields: what it is, if they are of one.
func guess(l []api.Field) picture {
	at := 0
	next := func() api.Field {
		at++
		if at > len(l) {
			return api.Field{} // so that what is missing is zero
		}
		return l[at-1]
	}
	x := picture{lsn: next().N}
	for range min(max(next().N, 0), 9) {
		var table []api.Row
		for range min(max(next().N, 0), int64(len(l))) {
			table = append(table, row(next().N, next().S))
		}
		x.tables = append(x.tables, table)
	}
	return x
}

// rightBytes holds Decode against P10.1, of a record that holds p: it is an image if the one that its fields look like has these
// bytes.
func rightBytes(t *testing.T, what string, p []byte) bool {
	t.Helper()
	b := record(p)
	l, e := field.Decode(p)
	if e != api.OK {
		faulty(t, what, b)
		return false
	}
	x := guess(l)
	if !plainMay(x) || !bytes.Equal(laid(list(x)...), p) {
		faulty(t, what, b)
		return false
	}
	decoded(t, what, b, x)
	encoded(t, what, x, b)
	return true
}

// TestDecodeOfAnotherByte goes through all bytes that differ in one place from those of an image, with the sum that they have.
func TestDecodeOfAnotherByte(t *testing.T) {
	for what, x := range map[string]picture{"the least": {0, tables(nil)}, "one row": {1, tables(rows(row(3, "v3")))}, "several": several()} {
		ok, n := 0, 0
		first := laid(list(x)...)
		for at := range first {
			for v := range 256 {
				p := slices.Clone(first)
				p[at] = byte(v)
				if rightBytes(t, what+", another byte", p) {
					ok++
				}
				n++
			}
		}
		if ok < len(first) || ok > n/2 {
			t.Errorf("%s: %d of %d were decoded", what, ok, n)
		}
	}
}

// TestDecodeOfAnotherNumber puts other numbers and texts in the place of each field.
func TestDecodeOfAnotherNumber(t *testing.T) {
	numbers := []int64{math.MinInt64, -1 << 40, -256, -2, -1, 0, 1, 2, 3, 4, 5, 7, 8, 9, 16, 255, 256, 257, 999, 1000, 1001, 1<<16 + 1, 1 << 31, 1 << 32, 1<<32 + 1, 1<<32 + 2, 1<<32 + 3, 1<<40 - 1, 1 << 40, 1<<40 + 1, 1 << 62, math.MaxInt64}
	for what, x := range small() {
		for at := range list(x) {
			for _, n := range numbers {
				l := list(x)
				l[at] = num(n)
				rightBytes(t, what+", another number", laid(l...))
			}
			for _, n := range []int{0, 1, 2, api.MaxVal - 1, api.MaxVal, api.MaxVal + 1, 256, api.MaxText} {
				l := list(x)
				l[at] = str(strings.Repeat("z", n))
				rightBytes(t, what+", another text", laid(l...))
			}
		}
	}
}

// TestDecodeOfAnotherKindOfField: a number is not taken for a text, nor a text for a number.
func TestDecodeOfAnotherKindOfField(t *testing.T) {
	for what, x := range small() {
		for at := range list(x) {
			l := list(x)
			if l[at].Kind == api.FieldText {
				for _, n := range []int64{0, 1, 97} {
					l[at] = num(n)
					faulty(t, what+", a number for a text", raw(l...))
				}
				continue
			}
			n := l[at].N
			for _, s := range []string{"", "0", "1", string(binary.BigEndian.AppendUint64(nil, uint64(n)))} {
				l[at] = str(s)
				faulty(t, what+", a text for a number", raw(l...))
			}
		}
	}
}

func TestDecodeOfFieldsMoreOrLess(t *testing.T) {
	for what, x := range small() {
		l := list(x)
		for n := range l {
			faulty(t, what+", too few", raw(l[:n]...))
			rightBytes(t, what+", the last ones", laid(l[n+1:]...))
			rightBytes(t, what+", one less", laid(slices.Delete(slices.Clone(l), n, n+1)...))
		}
		for _, f := range []api.Field{num(0), num(1), num(9), str(""), str("a")} {
			faulty(t, what+", too many", raw(append(slices.Clone(l), f)...))
			for n := range l {
				rightBytes(t, what+", one more", laid(slices.Insert(slices.Clone(l), n, f)...))
			}
		}
		faulty(t, what+", twice", raw(append(slices.Clone(l), l...)...))
	}
}

func TestDecodeOfOtherFields(t *testing.T) {
	faulty(t, "a text", raw(str("a")))
	faulty(t, "an empty text", raw(str("")))
	for n := range 40 {
		faulty(t, "ones", raw(slices.Repeat([]api.Field{num(1)}, n)...))
		faulty(t, "zeros", raw(slices.Repeat([]api.Field{num(0)}, n)...))
		faulty(t, "texts", raw(slices.Repeat([]api.Field{str("")}, n)...))
	}
	long := slices.Repeat([]api.Field{num(0)}, api.MaxFields)
	faulty(t, "as many as there may be", raw(long...))
	long[1] = num(8)
	faulty(t, "as many, of eight tables", raw(long...))
	decoded(t, "the first ten of them", raw(long[:10]...), picture{0, make([][]api.Row, api.MaxTables)})
	long[1], long[2] = num(1), num((api.MaxFields-3)/2)
	for i := 3; i < len(long); i++ {
		long[i] = num(int64(i))
		if i%2 == 0 {
			long[i] = str("")
		}
	}
	faulty(t, "as many, all of them rows", raw(long...))
	long[2] = num(api.MaxRows)
	faulty(t, "as many, and more rows than are told", raw(long...))
	decoded(t, "the rows that are told", raw(long[:3+2*api.MaxRows]...), guess(long[:3+2*api.MaxRows]))
}

// TestDecodeOfCounts: numbers of tables and of rows that are not those that are there.
func TestDecodeOfCounts(t *testing.T) {
	far := []int64{math.MinInt64, -1, api.MaxRows + 1, 1 << 32, 1<<32 + 1, 1<<32 + 2, 1<<32 + 3, 1 << 40, 1<<62 + 1, math.MaxInt64}
	for what, x := range small() {
		wrongCounts(t, what+", tables", list(x), 1, far)
		at := 2
		for _, table := range x.tables {
			wrongCounts(t, what+", rows", list(x), at, far)
			at += 1 + 2*len(table)
		}
	}
}

// wrongCounts puts other counts in the place of the one that is right.
func wrongCounts(t *testing.T, what string, l []api.Field, at int, far []int64) {
	t.Helper()
	first := l[at].N
	for d := int64(-12); d <= 12; d++ {
		if d != 0 {
			l[at].N = first + d
			rightBytes(t, what, laid(l...))
		}
	}
	for _, n := range far {
		l[at].N = n
		faulty(t, what+", "+strconv.FormatInt(n, 10), raw(l...))
	}
}

func FuzzDecode(f *testing.F) {
	f.Add([]byte(nil))
	f.Add([]byte{0, 0})
	for _, x := range small() {
		f.Add(laid(list(x)...))
	}
	for _, x := range bad() {
		if p := laid(list(x)...); len(p) < 2000 {
			f.Add(p)
		}
	}
	f.Fuzz(func(t *testing.T, p []byte) {
		rightBytes(t, "any bytes", p)
		if _, _, e := Decode(p); e != api.OK && e != api.ErrForm {
			t.Errorf("% x: got %d", p, e)
		}
	})
}
