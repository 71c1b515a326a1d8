package field

import (
	"bytes"
	"math"
	"slices"
	"strings"
	"testing"

	"qanat/api"
)

func num(n int64) api.Field { return api.Field{Kind: api.FieldInt, N: n} }

func text(s string) api.Field { return api.Field{Kind: api.FieldText, S: s} }

// long is a text of n bytes that are not all the same.
func long(n int) string {
	b := make([]byte, n)
	for i := range b {
		b[i] = byte(i*7 + i>>8)
	}
	return string(b)
}

// each is n fields of both kinds.
func each(n int) []api.Field {
	l := make([]api.Field, n)
	for i := range l {
		if i%3 == 0 {
			l[i] = text(long(i % 5))
		} else {
			l[i] = num(int64(i) * -0x123456789AB)
		}
	}
	return l
}

// plain is P2.1 word by word, for fields that are right.
func plain(l []api.Field) []byte {
	b := []byte{byte(len(l) / 256), byte(len(l) % 256)}
	for _, f := range l {
		b = append(b, byte(f.Kind))
		if f.Kind == api.FieldText {
			b = append(b, byte(len(f.S)/256), byte(len(f.S)%256))
			b = append(b, []byte(f.S)...)
			continue
		}
		x := uint64(f.N)
		if f.N < 0 {
			x = math.MaxUint64 - uint64(-(f.N + 1)) // 2^64 + N
		}
		for p := uint64(1 << 56); p > 0; p /= 256 {
			b = append(b, byte(x/p%256))
		}
	}
	return b
}

// encoded holds what Encode answers against bytes.
func encoded(t *testing.T, what string, want []byte, l ...api.Field) {
	t.Helper()
	b, e := Encode(l...)
	if e != api.OK || !bytes.Equal(b, want) {
		t.Errorf("Encode of %s: got % x, %d, want % x", what, b, e, want)
	}
}

// refused asks that Encode answers ErrArg, and nothing else.
func refused(t *testing.T, what string, l ...api.Field) {
	t.Helper()
	if b, e := Encode(l...); e != api.ErrArg || len(b) != 0 {
		t.Errorf("Encode of %s: got %d bytes, %d, want none, ErrArg", what, len(b), e)
	}
}

// decoded holds what Decode answers against fields.
func decoded(t *testing.T, what string, b []byte, want ...api.Field) {
	t.Helper()
	l, e := Decode(b)
	if e != api.OK || !slices.Equal(l, want) {
		t.Errorf("Decode of %s: got %#v, %d, want %#v", what, l, e, want)
	}
}

// faulty asks that Decode answers that error, and nothing else.
func faulty(t *testing.T, what string, b []byte, want api.Errno) {
	t.Helper()
	if l, e := Decode(b); e != want || len(l) != 0 {
		t.Errorf("Decode of %s: got %d fields, %d, want none, %d", what, len(l), e, want)
	}
}

func TestExamples(t *testing.T) {
	encoded(t, "the number 5", []byte{0, 1, 1, 0, 0, 0, 0, 0, 0, 0, 5}, num(5))
	encoded(t, "nothing", []byte{0, 0})
	decoded(t, "the number 5", []byte{0, 1, 1, 0, 0, 0, 0, 0, 0, 0, 5}, num(5))
	decoded(t, "nothing", []byte{0, 0})
}

func TestNoFields(t *testing.T) {
	encoded(t, "a nil list", []byte{0, 0}, []api.Field(nil)...)
	encoded(t, "an empty list", []byte{0, 0}, []api.Field{}...)
}

func TestNumbers(t *testing.T) {
	for _, c := range []struct {
		n    int64
		want string
	}{
		{0, "\x00\x00\x00\x00\x00\x00\x00\x00"},
		{1, "\x00\x00\x00\x00\x00\x00\x00\x01"},
		{255, "\x00\x00\x00\x00\x00\x00\x00\xff"},
		{256, "\x00\x00\x00\x00\x00\x00\x01\x00"},
		{0x0102030405060708, "\x01\x02\x03\x04\x05\x06\x07\x08"},
		{math.MaxInt64, "\x7f\xff\xff\xff\xff\xff\xff\xff"},
		{-1, "\xff\xff\xff\xff\xff\xff\xff\xff"},
		{-2, "\xff\xff\xff\xff\xff\xff\xff\xfe"},
		{-256, "\xff\xff\xff\xff\xff\xff\xff\x00"},
		{math.MinInt64 + 1, "\x80\x00\x00\x00\x00\x00\x00\x01"},
		{math.MinInt64, "\x80\x00\x00\x00\x00\x00\x00\x00"},
	} {
		b := []byte("\x00\x01\x01" + c.want)
		encoded(t, "a number", b, num(c.n))
		decoded(t, "a number", b, num(c.n))
	}
}

func TestTexts(t *testing.T) {
	for _, c := range []struct {
		s, head string
	}{
		{"", "\x00\x00"},
		{"a", "\x00\x01"},
		{"\x00", "\x00\x01"},
		{"\xff\xfe not of runes", "\x00\x0f"},
		{"dürre", "\x00\x06"},
		{long(255), "\x00\xff"},
		{long(256), "\x01\x00"},
		{long(api.MaxText - 1), "\x0f\xff"},
		{long(api.MaxText), "\x10\x00"},
	} {
		b := []byte("\x00\x01\x02" + c.head + c.s)
		encoded(t, "a text", b, text(c.s))
		decoded(t, "a text", b, text(c.s))
	}
}

func TestSeveral(t *testing.T) {
	b := []byte("\x00\x04\x02\x00\x02ab\x01\xff\xff\xff\xff\xff\xff\xff\xfe\x02\x00\x00\x01\x00\x00\x00\x00\x00\x00\x00\x00")
	l := []api.Field{text("ab"), num(-2), text(""), num(0)}
	encoded(t, "four", b, l...)
	decoded(t, "four", b, l...)
}

func TestEncodeIsAsWritten(t *testing.T) {
	for _, n := range []int{0, 1, 2, 3, 7, 255, 256, 257, 1000, api.MaxFields - 1, api.MaxFields} {
		b, e := Encode(each(n)...)
		if e != api.OK || !bytes.Equal(b, plain(each(n))) {
			t.Errorf("Encode of %d fields is not as the promise says it", n)
		}
		l, e := Decode(b)
		if e != api.OK || !slices.Equal(l, each(n)) {
			t.Errorf("%d fields: what is encoded is not decoded", n)
		}
	}
}

func TestTooManyFields(t *testing.T) {
	for _, n := range []int{api.MaxFields + 1, 1 << 16, 1<<16 + 1} {
		refused(t, "too many", each(n)...)
	}
}

func TestFieldsThatAreNotRight(t *testing.T) {
	for what, f := range map[string]api.Field{
		"a Kind that is 0":           {},
		"a Kind that is none":        {Kind: 3},
		"a Kind below 0":             {Kind: -1},
		"a Kind that is 1 as a byte": {Kind: 257},
		"a Kind that is 2 as a byte": {Kind: 258 - 512},
		"a Kind far above a byte":    {Kind: math.MaxInt},
		"a number with a text":       {Kind: api.FieldInt, N: 1, S: "a"},
		"a number 0 with a text":     {Kind: api.FieldInt, S: "\x00"},
		"a text with a number":       {Kind: api.FieldText, N: 1, S: "a"},
		"no text with a number":      {Kind: api.FieldText, N: -1},
		"a text that is too long":    text(long(api.MaxText + 1)),
		"a text of 0 in two bytes":   text(long(1 << 16)),
	} {
		refused(t, what, f)
		refused(t, what+", at the front", f, num(1), text("a"))
		refused(t, what+", in between", num(1), f, text("a"))
		refused(t, what+", at the end", num(1), text("a"), f)
	}
}

// ends asks for ErrShort wherever the bytes of l are cut, and for ErrForm where some are left behind them.
func ends(t *testing.T, what string, l ...api.Field) {
	t.Helper()
	b, e := Encode(l...)
	if e != api.OK {
		t.Fatalf("%s: not encoded: %d", what, e)
	}
	for n := range b {
		faulty(t, what+", cut", b[:n], api.ErrShort)
	}
	for _, more := range []string{"\x00", "\x01", "\x02\x00\x00", "\xff", string(b)} {
		faulty(t, what+", with more", append(bytes.Clone(b), more...), api.ErrForm)
	}
}

func TestBytesThatEndEarlyOrAreLeft(t *testing.T) {
	ends(t, "nothing")
	ends(t, "a number", num(-7))
	ends(t, "an empty text", text(""))
	ends(t, "a text", text("abc"))
	ends(t, "the longest text", text(long(api.MaxText)))
	ends(t, "several", text("abc"), num(1), text(""), num(math.MinInt64), text("d"))
}

func TestNilIsShort(t *testing.T) {
	faulty(t, "nil", nil, api.ErrShort)
	faulty(t, "empty", []byte{}, api.ErrShort)
}

func TestCountsThatAreTooHigh(t *testing.T) {
	for n := api.MaxFields + 1; n < 1<<16; n++ {
		faulty(t, "a count alone", []byte{byte(n >> 8), byte(n)}, api.ErrForm)
	}
	faulty(t, "a count that may be, alone", []byte{0x7f, 0xff}, api.ErrShort)
	b := plain(each(api.MaxFields + 1))
	faulty(t, "one more than may be", b, api.ErrForm)
	b[0], b[1] = 0x7f, 0xff
	faulty(t, "one more than is told", b, api.ErrForm)
}

func TestEachKind(t *testing.T) {
	tail := []byte{0, 0, 0, 0, 0, 0, 0, 0}
	for k := range 256 {
		switch k {
		case api.FieldInt:
			decoded(t, "a number", append([]byte{0, 1, 1}, tail...), num(0))
		case api.FieldText:
			decoded(t, "a text", []byte{0, 1, 2, 0, 0}, text(""))
		default:
			faulty(t, "a Kind that is none", append([]byte{0, 1, byte(k)}, tail...), api.ErrForm)
			faulty(t, "a Kind that is none, at the end", []byte{0, 1, byte(k)}, api.ErrForm)
			faulty(t, "a Kind that is none, second", []byte{0, 9, 2, 0, 0, byte(k)}, api.ErrForm)
		}
	}
}

func TestEachLength(t *testing.T) {
	body := long(1 << 16)
	for n := range 1 << 16 {
		b := []byte{0, 1, api.FieldText, byte(n >> 8), byte(n)}
		switch {
		case n > api.MaxText:
			faulty(t, "a length above MaxText", b, api.ErrForm)
		case n > 0:
			faulty(t, "a length that may be, and no text", b, api.ErrShort)
		}
	}
	for _, n := range []int{api.MaxText + 1, 1<<16 - 1} {
		b := []byte{0, 1, api.FieldText, byte(n >> 8), byte(n)}
		faulty(t, "a length above MaxText, and the text", append(b, body[:n]...), api.ErrForm)
	}
}

// TestFirstFaultCounts: what is wrong farther right plays no part.
func TestFirstFaultCounts(t *testing.T) {
	for _, c := range []struct {
		what, b string
		want    api.Errno
	}{
		{"a count too high, a Kind that is none", "\x80\x00\x07", api.ErrForm},
		{"half a count that would be too high", "\xff", api.ErrShort},
		{"half a length that would be too high", "\x00\x01\x02\xff", api.ErrShort},
		{"a Kind that is none, ahead of a lack", "\x00\x02\x07", api.ErrForm},
		{"a length too high, ahead of a lack", "\x00\x02\x02\x10\x01", api.ErrForm},
		{"a text that lacks bytes, too many told", "\x00\x03\x02\x00\x05abc", api.ErrShort},
		{"a text that swallows the next field", "\x00\x02\x02\x00\x03\x02\x00\x00", api.ErrShort},
		{"a number that swallows a Kind that is none", "\x00\x02\x01\x07\x07\x07\x07\x07\x07\x07\x07", api.ErrShort},
		{"a field left over that is none itself", "\x00\x01\x02\x00\x00\x07", api.ErrForm},
	} {
		faulty(t, c.what, []byte(c.b), c.want)
	}
}

// TestDecodedIsEncodedAsTheSameBytes goes through bytes near to those of fields, most of which are faulty in some way.
func TestDecodedIsEncodedAsTheSameBytes(t *testing.T) {
	good := 0
	first := plain([]api.Field{text("ab"), num(-2), text("")})
	for at := range first {
		for x := range 256 {
			b := bytes.Clone(first)
			b[at] = byte(x)
			l, e := Decode(b)
			if e != api.OK {
				faulty(t, "changed bytes", b, e)
				continue
			}
			good++
			encoded(t, "what was decoded", b, l...)
		}
	}
	if good < 10*256 {
		t.Errorf("only %d of the changed rows were decoded", good)
	}
}

// TestShortRowsOfBytes: of all rows of two or three bytes one alone is of fields, and that is of none.
func TestShortRowsOfBytes(t *testing.T) {
	for x := range 1 << 24 {
		b := []byte{byte(x >> 16), byte(x >> 8), byte(x)}
		if l, e := Decode(b); e == api.OK || len(l) != 0 {
			t.Fatalf("% x: got %#v, %d", b, l, e)
		}
	}
	for x := range 1 << 16 {
		b := []byte{byte(x >> 8), byte(x)}
		if _, e := Decode(b); (e == api.OK) != (x == 0) {
			t.Fatalf("% x: got %d", b, e)
		}
	}
}

func TestHandedInIsNotChanged(t *testing.T) {
	room := []api.Field{text("ab"), num(3), text("cd"), num(4)}
	kept := slices.Clone(room)
	Encode(room[:2]...)
	Encode(append(slices.Clone(room), api.Field{})...)
	if !slices.Equal(room, kept) {
		t.Error("fields were changed")
	}
	b := append(plain(room), "behind the end"...)
	was := bytes.Clone(b)
	Decode(b[:len(plain(room))])
	Decode(b)
	if !bytes.Equal(b, was) {
		t.Error("bytes were changed")
	}
}

func TestHandedOutIsNew(t *testing.T) {
	l := []api.Field{text("abc"), num(3)}
	a, _ := Encode(l...)
	b, _ := Encode(l...)
	clear(a)
	if !bytes.Equal(b, plain(l)) {
		t.Error("two answers of Encode share memory")
	}
	first, _ := Decode(b)
	second, _ := Decode(b)
	clear(b)
	if !slices.Equal(first, l) {
		t.Error("what was decoded hangs on the bytes that were handed in")
	}
	clear(first)
	if !slices.Equal(second, l) {
		t.Error("two answers of Decode share memory")
	}
}

func FuzzDecode(f *testing.F) {
	f.Add([]byte(nil))
	f.Add(plain(nil))
	f.Add(plain([]api.Field{num(5)}))
	f.Add(plain([]api.Field{text("ab"), num(-2), text("")}))
	f.Add(plain([]api.Field{text(strings.Repeat("a", 300))}))
	f.Fuzz(func(t *testing.T, b []byte) {
		l, e := Decode(b)
		if e != api.OK {
			if len(l) != 0 {
				t.Fatalf("%d fields beside the error %d", len(l), e)
			}
			return
		}
		if c, e := Encode(l...); e != api.OK || !bytes.Equal(b, c) {
			t.Fatalf("% x is encoded as % x, %d", b, c, e)
		}
	})
}
