package txn

import (
	"bytes"
	"encoding/binary"
	"math"
	"slices"
	"strings"
	"testing"

	"qanat/api"
	"qanat/field"
)

func TestDecodeOfNoBytes(t *testing.T) {
	faulty(t, "nil", nil, api.ErrShort)
	faulty(t, "no bytes", []byte{}, api.ErrShort)
	faulty(t, "no fields", []byte{0, 0}, api.ErrForm)
}

// TestDecodeHasTheErrorsOfFields: bytes that are of no fields, with the error that they have there.
func TestDecodeHasTheErrorsOfFields(t *testing.T) {
	whole := raw(list(several())...)
	for what, c := range map[string]struct {
		b    []byte
		want api.Errno
	}{
		"half a count":                {[]byte{0}, api.ErrShort},
		"a count alone":               {[]byte{0, 5}, api.ErrShort},
		"a count that is too high":    {[]byte{0x80, 0}, api.ErrForm},
		"a kind that is none":         {[]byte{0, 5, 3}, api.ErrForm},
		"a kind 0":                    {[]byte{0, 5, 0}, api.ErrForm},
		"half a number":               {[]byte{0, 5, 1, 0, 0}, api.ErrShort},
		"a text that is too long":     {[]byte{0, 5, 2, 0x10, 1}, api.ErrForm},
		"a text that lacks bytes":     {[]byte{0, 5, 2, 0, 2, 'a'}, api.ErrShort},
		"text first, then a lack":     {[]byte{0, 5, 2, 0, 1, 'a'}, api.ErrShort},
		"Kind 9, then a lack":         {raw(num(1), num(9), num(0), num(0), num(0))[:40], api.ErrShort},
		"no transaction, then a rest": {append(raw(num(1)), 0), api.ErrForm},
		"a rest":                      {append(slices.Clone(whole), 7), api.ErrForm},
		"a lack at the end":           {whole[:len(whole)-1], api.ErrShort},
		"one told more than there is": {append([]byte{whole[0], whole[1] + 1}, whole[2:]...), api.ErrShort},
		"one told less than there is": {append([]byte{whole[0], whole[1] - 1}, whole[2:]...), api.ErrForm},
	} {
		faulty(t, what, c.b, c.want)
		if _, e := field.Decode(c.b); e != c.want {
			t.Errorf("%s: the fields' error is %d, not %d", what, e, c.want)
		}
	}
}

func TestDecodeWithBytesMoreOrLess(t *testing.T) {
	for what, x := range good() {
		b := raw(list(x)...)
		for n := range b {
			faulty(t, what+", cut", b[:n], api.ErrShort)
		}
		for _, more := range []string{"\x00", "\x01", "\xff", "\x02\x00\x00", string(b)} {
			faulty(t, what+", with more", append(slices.Clone(b), more...), api.ErrForm)
		}
	}
}

// guess makes a transaction of whatever fields: what it is, if they are of one.
func guess(l []api.Field) api.Txn {
	l = append(slices.Clone(l), make([]api.Field, 4*17+8)...) // so that what is missing is zero
	x := api.Txn{Lsn: l[0].N, Kind: int(l[1].N), Mark: l[2].N}
	at := 4
	for range min(max(l[3].N, 0), 17) {
		c := l[at : at+4]
		x.Changes = append(x.Changes, api.Change{Table: int(c[0].N), Key: c[1].N, Gone: c[2].N != 0, Val: c[3].S})
		at += 4
	}
	for i := range min(max(l[at].N, 0), 3) {
		x.Signals = append(x.Signals, l[at+1+int(i)].S)
	}
	return x
}

// right holds Decode against P7.1: b is of a transaction if the one that its fields look like has these bytes.
func right(t *testing.T, what string, b []byte) bool {
	t.Helper()
	l, fe := field.Decode(b)
	if fe != api.OK {
		faulty(t, what, b, fe)
		return false
	}
	x := guess(l)
	if !May(x) || !bytes.Equal(raw(list(x)...), b) {
		faulty(t, what, b, api.ErrForm)
		return false
	}
	decoded(t, what, b, x)
	if c, e := Encode(x); e != api.OK || !bytes.Equal(b, c) {
		t.Errorf("%s: % x is encoded as % x, %d", what, b, c, e)
	}
	return true
}

// TestDecodeOfAnotherByte goes through all bytes that differ in one place from those of a transaction.
func TestDecodeOfAnotherByte(t *testing.T) {
	for what, x := range map[string]api.Txn{"the least": client(nil), "several": several(), "a mark": {Lsn: 7, Kind: api.TxnLow, Mark: 6}} {
		ok, n := 0, 0
		first := raw(list(x)...)
		for at := range first {
			for v := range 256 {
				b := slices.Clone(first)
				b[at] = byte(v)
				if right(t, what+", another byte", b) {
					ok++
				}
				n++
			}
		}
		if ok < len(first) || ok > n/2 {
			t.Errorf("%s: %d of %d were decoded", what, ok, n)
		}
	}
}

// TestDecodeOfAnotherNumber puts other numbers in the place of each field.
func TestDecodeOfAnotherNumber(t *testing.T) {
	numbers := []int64{math.MinInt64, -1 << 40, -256, -17, -2, -1, 0, 1, 2, 3, 4, 5, 7, 8, 9, 15, 16, 17, 18, 255, 256, 257, 1<<16 + 1, 1 << 31, 1 << 32, 1<<32 + 1, 1<<32 + 2, 1<<32 + 3, 1<<40 - 1, 1 << 40, 1<<40 + 1, 1 << 62, math.MaxInt64}
	for what, x := range good() {
		for at := range list(x) {
			for _, n := range numbers {
				l := list(x)
				l[at] = num(n)
				right(t, what+", another number", raw(l...))
			}
			for _, n := range []int{0, 1, 2, api.MaxVal, api.MaxVal + 1, api.MaxSignal, api.MaxSignal + 1, api.MaxText} {
				l := list(x)
				l[at] = str(strings.Repeat("z", n))
				right(t, what+", another text", raw(l...))
			}
		}
	}
}

// TestDecodeOfAnotherKindOfField: a number is not taken for a text, nor a text for a number.
func TestDecodeOfAnotherKindOfField(t *testing.T) {
	for what, x := range good() {
		for at := range list(x) {
			l := list(x)
			if l[at].Kind == api.FieldText {
				for _, n := range []int64{0, 1, 97} {
					l[at] = num(n)
					faulty(t, what+", a number for a text", raw(l...), api.ErrForm)
				}
				continue
			}
			n := l[at].N
			for _, s := range []string{"", "0", "1", string(binary.BigEndian.AppendUint64(nil, uint64(n)))} {
				l[at] = str(s)
				faulty(t, what+", a text for a number", raw(l...), api.ErrForm)
			}
		}
	}
}

func TestDecodeOfOtherFields(t *testing.T) {
	faulty(t, "a text", raw(str("a")), api.ErrForm)
	faulty(t, "an empty text", raw(str("")), api.ErrForm)
	faulty(t, "five texts", raw(str(""), str(""), str(""), str(""), str("")), api.ErrForm)
	for n := range 40 {
		l := slices.Repeat([]api.Field{num(1)}, n)
		faulty(t, "ones", raw(l...), api.ErrForm)
		l = slices.Repeat([]api.Field{num(0)}, n)
		faulty(t, "zeros", raw(l...), api.ErrForm)
	}
	many := slices.Repeat([]api.Field{num(0)}, api.MaxFields)
	many[0], many[1] = num(1), num(1)
	faulty(t, "as many as there may be", raw(many...), api.ErrForm)
	decoded(t, "the first five of them", raw(many[:5]...), client(nil))
}

func TestDecodeOfFieldsMoreOrLess(t *testing.T) {
	for what, x := range good() {
		l := list(x)
		for n := range l {
			faulty(t, what+", too few", raw(l[:n]...), api.ErrForm)
			faulty(t, what+", the last ones", raw(l[n+1:]...), api.ErrForm)
			right(t, what+", one less", raw(slices.Delete(slices.Clone(l), n, n+1)...))
		}
		for _, f := range []api.Field{num(0), num(1), str(""), str("a")} {
			faulty(t, what+", too many", raw(append(slices.Clone(l), f)...), api.ErrForm)
			for n := range l {
				right(t, what+", one more", raw(slices.Insert(slices.Clone(l), n, f)...))
			}
		}
		faulty(t, what+", twice", raw(append(slices.Clone(l), l...)...), api.ErrForm)
	}
}

// TestDecodeOfCounts: numbers of changes and signals that are not those that are there.
func TestDecodeOfCounts(t *testing.T) {
	for n := range api.MaxChanges + 1 {
		for s := range api.MaxSignals + 1 {
			x := client(changes(n), make([]string, s)...)
			for d := int64(-20); d <= 20; d++ {
				if d == 0 {
					continue
				}
				l := list(x)
				l[3].N += d
				faulty(t, "another number of changes", raw(l...), api.ErrForm)
				l = list(x)
				l[4+4*n].N += d
				faulty(t, "another number of signals", raw(l...), api.ErrForm)
			}
			for _, d := range []int64{math.MinInt64, -1, 17, 1<<32 + int64(n), 1<<62 + int64(n), math.MaxInt64} {
				l := list(x)
				l[3].N = d
				faulty(t, "a number of changes that is none", raw(l...), api.ErrForm)
				l = list(x)
				l[4+4*n].N = d
				faulty(t, "a number of signals that is none", raw(l...), api.ErrForm)
			}
		}
	}
}

func TestDecodeOfGone(t *testing.T) {
	for _, n := range []int64{math.MinInt64, -256, -2, -1, 2, 3, 255, 256, 257, 1 << 32, 1<<32 + 1, math.MaxInt64} {
		for _, val := range []string{"", "a"} {
			for k := range 3 {
				l := list(client([]api.Change{{Key: 1, Val: val}, {Key: 2, Val: val}, {Key: 3, Val: val}}))
				l[6+4*k] = num(n)
				faulty(t, "a Gone that is none", raw(l...), api.ErrForm)
			}
		}
	}
	l := list(client([]api.Change{{Key: 1}}))
	l[6] = num(1)
	decoded(t, "a Gone of 1", raw(l...), client([]api.Change{{Key: 1, Gone: true}}))
	l[6] = num(0)
	decoded(t, "a Gone of 0", raw(l...), client([]api.Change{{Key: 1}}))
}

func FuzzDecode(f *testing.F) {
	f.Add([]byte(nil))
	f.Add([]byte{0, 0})
	for _, x := range good() {
		f.Add(raw(list(x)...))
	}
	for _, x := range bad() {
		if b, e := field.Encode(list(x)...); e == api.OK && len(b) < 2000 {
			f.Add(b)
		}
	}
	f.Fuzz(func(t *testing.T, b []byte) {
		right(t, "any bytes", b)
	})
}
