package seg

import (
	"bytes"
	"encoding/binary"
	"hash/crc32"
	"math"
	"slices"
	"testing"

	"qanat/api"
	"qanat/field"
	"qanat/rec"
)

// record is the bytes of a record that holds p, by the library's means alone.
func record(p []byte) []byte {
	count := binary.BigEndian.AppendUint32(nil, uint32(len(p)))
	sum := crc32.ChecksumIEEE(slices.Concat(count, p))
	return slices.Concat(count, binary.BigEndian.AppendUint32(nil, sum), p)
}

// number is the bytes of one field, the number x.
func number(x int64) []byte {
	return binary.BigEndian.AppendUint64([]byte{0, 1, 1}, uint64(x))
}

// plainHead is a head as P5.1 has it, also of numbers that it may not have.
func plainHead(first int64) []byte {
	return record(number(first))
}

// segment is a head with records behind it.
func segment(first int64, entries ...[]byte) []byte {
	b := plainHead(first)
	for _, p := range entries {
		b = append(b, record(p)...)
	}
	return b
}

// reads holds what Read answers against a number and entries.
func reads(t *testing.T, what string, b []byte, first int64, entries ...[]byte) {
	t.Helper()
	size := 19
	for _, p := range entries {
		size += 8 + len(p)
	}
	f, l, n, e := Read(b)
	if f != first || n != size || e != api.OK || !slices.EqualFunc(l, entries, bytes.Equal) {
		t.Errorf("Read of %s: got %d, %d entries (%.200q), %d bytes, %d, want %d, %d entries, %d bytes", what, f, len(l), l, n, e, first, len(entries), size)
	}
}

// refused asks that Read answers ErrForm, and nothing else.
func refused(t *testing.T, what string, b []byte) {
	t.Helper()
	if f, l, n, e := Read(b); f != 0 || len(l) != 0 || n != 0 || e != api.ErrForm {
		t.Errorf("Read of %s (% .40x): got %d, %.100q, %d, %d, want ErrForm alone", what, b, f, l, n, e)
	}
}

func TestExample(t *testing.T) {
	b, e := Head(7)
	if e != api.OK || len(b) != 19 {
		t.Fatalf("Head(7): got % x, %d", b, e)
	}
	reads(t, "Head(7)", b, 7)
}

func TestKnownHead(t *testing.T) {
	want := []byte{0, 0, 0, 11, 0xc0, 0x9c, 0x4d, 0x37, 0, 1, 1, 0, 0, 0, 0, 0, 0, 0, 7}
	if b, _ := Head(7); !bytes.Equal(b, want) {
		t.Errorf("Head(7): got % x, want % x", b, want)
	}
}

// rightNumbers has both ends, and those at which one more byte of the number is used.
func rightNumbers() []int64 {
	l := []int64{1, 2, 3, 7, api.MaxLsn - 1, api.MaxLsn}
	for s := 8; s < 40; s += 8 {
		l = append(l, 1<<s-1, 1<<s, 1<<s+1)
	}
	return l
}

func wrongNumbers() []int64 {
	return []int64{0, -1, -2, -api.MaxLsn, api.MaxLsn + 1, api.MaxLsn + 2, 1 << 41, 1<<41 + 7, 1<<56 + 7, math.MaxInt64, math.MinInt64, math.MinInt64 + 7}
}

func TestHead(t *testing.T) {
	for _, x := range rightNumbers() {
		b, e := Head(x)
		if e != api.OK || !bytes.Equal(b, plainHead(x)) {
			t.Errorf("Head(%d): got % x, %d, want % x", x, b, e, plainHead(x))
		}
		p, _ := field.Encode(api.Field{Kind: api.FieldInt, N: x})
		if r, _ := rec.Put(p); !bytes.Equal(b, r) {
			t.Errorf("Head(%d) is not the record of its field: % x, % x", x, b, r)
		}
		reads(t, "a head", b, x)
	}
}

func TestHeadRefuses(t *testing.T) {
	for _, x := range wrongNumbers() {
		if b, e := Head(x); e != api.ErrArg || len(b) != 0 {
			t.Errorf("Head(%d): got % x, %d, want ErrArg alone", x, b, e)
		}
	}
}

func TestReadWithoutARecord(t *testing.T) {
	refused(t, "nil", nil)
	refused(t, "no bytes", []byte{})
	refused(t, "one byte", []byte{0})
	refused(t, "zeros", make([]byte, 64))
	refused(t, "ones", bytes.Repeat([]byte{0xff}, 64))
	refused(t, "a number without a record", number(7))
	refused(t, "a byte ahead of a head", append([]byte{0}, segment(7, []byte("a"))...))
	refused(t, "a wrong record ahead of a head", append(make([]byte, 8), segment(7)...))
}

func TestReadOfAFirstRecordThatIsNoHead(t *testing.T) {
	text, _ := field.Encode(api.Field{Kind: api.FieldText, S: "7"})
	eight, _ := field.Encode(api.Field{Kind: api.FieldText, S: "\x00\x00\x00\x00\x00\x00\x00\x07"})
	two, _ := field.Encode(api.Field{Kind: api.FieldInt, N: 7}, api.Field{Kind: api.FieldInt, N: 8})
	mixed, _ := field.Encode(api.Field{Kind: api.FieldInt, N: 7}, api.Field{Kind: api.FieldText})
	for what, p := range map[string][]byte{
		"no bytes":             nil,
		"no fields":            {0, 0},
		"a text":               text,
		"a text of no bytes":   {0, 1, 2, 0, 0},
		"a text of 8 bytes":    eight,
		"two numbers":          two,
		"a number and a text":  mixed,
		"a word":               []byte("abc"),
		"a head":               plainHead(7),
		"eight bytes":          number(7)[3:],
		"a kind that is none":  append([]byte{0, 1, 0}, number(7)[3:]...),
		"more than one, short": append([]byte{0, 2, 1}, number(7)[3:]...),
		"257, short":           append([]byte{1, 1, 1}, number(7)[3:]...),
		"none, and more bytes": append([]byte{0, 0, 1}, number(7)[3:]...),
		"a byte more":          append(number(7), 0),
		"a byte ahead":         append([]byte{0}, number(7)...),
		"a byte less":          number(7)[:10],
		"a count alone":        number(7)[:2],
		"a count and a kind":   number(7)[:3],
		"the greatest record":  make([]byte, api.MaxRecord),
	} {
		refused(t, what, record(p))
		refused(t, what+", and a head behind it", append(record(p), segment(7, []byte("a"))...))
	}
}

func TestReadOfAHeadOfAWrongNumber(t *testing.T) {
	for _, x := range wrongNumbers() {
		refused(t, "a head of a wrong number", plainHead(x))
		refused(t, "a head of a wrong number, and more", segment(x, []byte("a"), number(7)))
	}
}

// TestReadOfATurnedHead: whatever one byte of a head becomes, the sum is another one.
func TestReadOfATurnedHead(t *testing.T) {
	b := segment(7, []byte("a"))
	for i := range 19 {
		for x := 1; x < 256; x++ {
			c := bytes.Clone(b)
			c[i] ^= byte(x)
			refused(t, "a head with a byte turned", c)
			refused(t, "a head with a byte turned, alone", c[:19])
		}
	}
}

// TestReadOfOtherNumbers: where the sum is right, one byte of the number makes another head, or none.
func TestReadOfOtherNumbers(t *testing.T) {
	for i := range 11 {
		for x := range 256 {
			p := number(7)
			p[i] = byte(x)
			n := int64(binary.BigEndian.Uint64(p[3:]))
			if bytes.HasPrefix(p, []byte{0, 1, 1}) && n >= 1 && n <= api.MaxLsn {
				reads(t, "another head", record(p), n)
			} else {
				refused(t, "what was a head", record(p))
			}
		}
	}
}

func TestReadOfAHeadWithBytesMoreOrLess(t *testing.T) {
	b := plainHead(7)
	for i := range b {
		refused(t, "a head without a byte", slices.Delete(bytes.Clone(b), i, i+1))
	}
	for i := 1; i < 11; i++ {
		// Behind place 11 a zero more among zeros leaves the head as it was.
		refused(t, "a head with a byte more", slices.Insert(bytes.Clone(b), i, 0x55))
	}
	for x := range 256 {
		reads(t, "a head with a byte behind it", append(bytes.Clone(b), byte(x)), 7)
	}
}

// several is what some records hold, empty ones and heads among them.
func several() [][]byte {
	return [][]byte{[]byte("one"), nil, number(8), number(7), nil, nil, bytes.Repeat([]byte{0xa5}, 300), []byte("one"), number(0), {0}}
}

func TestReadOfEntries(t *testing.T) {
	l := several()
	for n := range len(l) + 1 {
		reads(t, "some entries", segment(7, l[:n]...), 7, l[:n]...)
		reads(t, "some entries, the other end", segment(api.MaxLsn, l[n:]...), api.MaxLsn, l[n:]...)
	}
	reads(t, "one of no bytes", segment(7, nil), 7, nil)
	reads(t, "a head behind the head", segment(7, number(7)), 7, number(7))
	great := [][]byte{make([]byte, api.MaxRecord), []byte("a"), make([]byte, api.MaxRecord)}
	reads(t, "the greatest", segment(1, great...), 1, great...)
	many := slices.Repeat([][]byte{nil, {1}}, 5000)
	reads(t, "many", segment(1, many...), 1, many...)
}

// TestReadOfWhatIsCut: a segment that is torn has the records that are whole.
func TestReadOfWhatIsCut(t *testing.T) {
	l := several()
	b := segment(7, l...)
	whole, end := 0, 27+len(l[0])
	for i := range b {
		if i < 19 {
			refused(t, "a segment, cut in its head", b[:i])
			refused(t, "a segment, cut in its head, without room", slices.Clip(bytes.Clone(b[:i])))
			continue
		}
		if i == end {
			whole++
			end += 8 + len(l[whole])
		}
		reads(t, "a segment, cut", b[:i], 7, l[:whole]...)
		reads(t, "a segment, cut, with rubbish behind", append(bytes.Clone(b[:i]), 0xff, 0xfe), 7, l[:whole]...)
	}
}

// TestReadOfATurnedEntry: what lies behind a wrong record plays no part.
func TestReadOfATurnedEntry(t *testing.T) {
	b := segment(7, []byte("one"), []byte("two"), []byte("three"))
	for i := 19; i < len(b); i++ {
		c := bytes.Clone(b)
		c[i] ^= 0x10
		ahead := [][]byte{[]byte("one"), []byte("two")}[:min((i-19)/11, 2)]
		reads(t, "a segment with a byte turned", c, 7, ahead...)
	}
}

func TestHeadIsNewMemory(t *testing.T) {
	a, _ := Head(7)
	b, _ := Head(7)
	clear(a[:cap(a)])
	c, _ := Head(7)
	if !bytes.Equal(b, plainHead(7)) || !bytes.Equal(c, plainHead(7)) {
		t.Error("two heads share memory")
	}
}

func TestHandedInIsNotChanged(t *testing.T) {
	room := append(segment(7, several()...), bytes.Repeat([]byte{0x33}, 64)...)
	kept := bytes.Clone(room)
	for n := range room {
		_, l, _, _ := Read(room[:n])
		for _, p := range l {
			clear(p[:cap(p)])
		}
		clear(l[:cap(l)])
	}
	if !bytes.Equal(room, kept) {
		t.Error("bytes were changed")
	}
}

func TestReadIsNewMemory(t *testing.T) {
	want := several()
	b := segment(7, want...)
	_, l, _, _ := Read(b)
	_, other, _, _ := Read(b)
	clear(b)
	if !slices.EqualFunc(l, want, bytes.Equal) {
		t.Error("what was read hangs on the bytes")
	}
	for i := range l {
		clear(l[i][:cap(l[i])])
		if !slices.EqualFunc(l[i+1:], want[i+1:], bytes.Equal) {
			t.Errorf("list %d shares memory with one behind it", i)
		}
	}
	clear(l[:cap(l)])
	if !slices.EqualFunc(other, want, bytes.Equal) {
		t.Error("two answers share memory")
	}
}

// FuzzRead holds Read against P5.1 on bytes of any kind.
func FuzzRead(f *testing.F) {
	f.Add([]byte(nil))
	f.Add(segment(7, several()...))
	f.Add(plainHead(0))
	f.Add(record(nil))
	f.Fuzz(func(t *testing.T, b []byte) {
		l, _ := rec.Scan(b)
		if len(l) > 0 && len(l[0]) == 11 {
			x := int64(binary.BigEndian.Uint64(l[0][3:]))
			if h, e := Head(x); e == api.OK && bytes.HasPrefix(b, h) {
				reads(t, "any segment", b, x, l[1:]...)
				return
			}
		}
		refused(t, "what is no segment", b)
	})
}
