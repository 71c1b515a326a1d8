package batch

import (
	"encoding/binary"
	"math"
	"slices"
	"strings"
	"testing"

	"qanat/api"
	"qanat/field"
)

// several is an item of some ops and notes, all of them other ones.
func several() api.Item {
	return item(300, []api.Op{{Lsn: 299, Table: 2, Key: 9, Val: "val"}, {Lsn: 300, Key: 3, Gone: true}, {Lsn: 1, Table: 7, Key: api.MaxKey}}, accept(2, 3, 4, 5), chunk(6, 7, true), chunk(8, 0, false))
}

// few is small items that may be.
func few() map[string]api.Item {
	return map[string]api.Item{
		"the least":       {Lsn: 1},
		"of the last Lsn": {Lsn: api.MaxLsn},
		"several":         several(),
		"an op":           item(9, []api.Op{{Lsn: 9, Key: 1, Val: "v"}}),
		"an op, gone":     item(2, []api.Op{{Lsn: 1, Key: 1, Gone: true}}),
		"a long val":      item(2, []api.Op{{Lsn: 2, Table: 7, Key: api.MaxKey, Val: strings.Repeat("\x01", 32)}}),
		"accepted":        item(9, nil, accept(64, 7, 8, 9)),
		"a chunk":         item(1, nil, chunk(64, api.MaxKey, true)),
		"one of each":     item(1, someOps(1, 1), someNotes(1, 1)...),
		"two of each":     item(1, someOps(1, 2), someNotes(1, 2)...),
	}
}

func TestDecodeOfNoBytes(t *testing.T) {
	faulty(t, "nil", nil, api.ErrShort)
	faulty(t, "no bytes", []byte{}, api.ErrShort)
	faulty(t, "no fields", []byte{0, 0}, api.ErrForm)
}

// TestDecodeHasTheErrorsOfFields: bytes that are of no fields, with the error that they have there.
func TestDecodeHasTheErrorsOfFields(t *testing.T) {
	whole := raw(list(several())...)
	for what, c := range map[string]struct {
		b    []byte
		want api.Errno
	}{
		"half a count":                {[]byte{0}, api.ErrShort},
		"a count alone":               {[]byte{0, 3}, api.ErrShort},
		"a count that is too high":    {[]byte{0x80, 0}, api.ErrForm},
		"a kind that is none":         {[]byte{0, 3, 3}, api.ErrForm},
		"a kind 0":                    {[]byte{0, 3, 0}, api.ErrForm},
		"half a number":               {[]byte{0, 3, 1, 0, 0}, api.ErrShort},
		"a text that is too long":     {[]byte{0, 3, 2, 0x10, 1}, api.ErrForm},
		"a text that lacks bytes":     {[]byte{0, 3, 2, 0, 2, 'a'}, api.ErrShort},
		"text first, then a lack":     {[]byte{0, 3, 2, 0, 1, 'a'}, api.ErrShort},
		"an Lsn 0, then a lack":       {raw(num(0), num(0), num(0))[:28], api.ErrShort},
		"no item, then a rest":        {append(raw(num(1)), 0), api.ErrForm},
		"a rest":                      {append(slices.Clone(whole), 7), api.ErrForm},
		"a lack at the end":           {whole[:len(whole)-1], api.ErrShort},
		"one told more than there is": {append([]byte{whole[0], whole[1] + 1}, whole[2:]...), api.ErrShort},
		"one told less than there is": {append([]byte{whole[0], whole[1] - 1}, whole[2:]...), api.ErrForm},
	} {
		faulty(t, what, c.b, c.want)
		if _, e := field.Decode(c.b); e != c.want {
			t.Errorf("%s: the fields' error is %d, not %d", what, e, c.want)
		}
	}
}

func TestDecodeWithBytesMoreOrLess(t *testing.T) {
	for what, x := range few() {
		b := raw(list(x)...)
		for n := range b {
			faulty(t, what+", cut", b[:n], api.ErrShort)
		}
		for _, more := range []string{"\x00", "\x01", "\xff", "\x02\x00\x00", string(b)} {
			faulty(t, what+", with more", append(slices.Clone(b), more...), api.ErrForm)
		}
	}
}

// TestDecodeOfAnotherByte goes through all bytes that differ in one place from those of an item.
func TestDecodeOfAnotherByte(t *testing.T) {
	for what, x := range map[string]api.Item{"the least": {Lsn: 1}, "several": several(), "of the last Lsn": item(api.MaxLsn, nil, accept(1, 0, 1, 1))} {
		ok, n := 0, 0
		first := raw(list(x)...)
		for at := range first {
			for v := range 256 {
				b := slices.Clone(first)
				b[at] = byte(v)
				if right(t, what+", another byte", b) {
					ok++
				}
				n++
			}
		}
		if ok < len(first) || ok > n/2 {
			t.Errorf("%s: %d of %d were decoded", what, ok, n)
		}
	}
}

// TestDecodeOfAnotherNumber puts other numbers, and texts, in the place of each field.
func TestDecodeOfAnotherNumber(t *testing.T) {
	numbers := append(far(0, 7), far(1, 9)...)
	numbers = append(numbers, far(256, 4096)...)
	for what, x := range few() {
		for at := range list(x) {
			for _, n := range numbers {
				l := list(x)
				l[at] = num(n)
				right(t, what+", another number", raw(l...))
			}
			for _, n := range []int{0, 1, 2, 32, 33, 34, 256, api.MaxText} {
				l := list(x)
				l[at] = str(strings.Repeat("z", n))
				right(t, what+", another text", raw(l...))
			}
		}
	}
}

// TestDecodeOfAnotherKindOfField: a number is not taken for a text, nor a text for a number.
func TestDecodeOfAnotherKindOfField(t *testing.T) {
	for what, x := range few() {
		for at := range list(x) {
			l := list(x)
			if l[at].Kind == api.FieldText {
				for _, n := range []int64{0, 1, 97} {
					l[at] = num(n)
					faulty(t, what+", a number for a text", raw(l...), api.ErrForm)
				}
				continue
			}
			n := l[at].N
			for _, s := range []string{"", "0", "1", string(binary.BigEndian.AppendUint64(nil, uint64(n)))} {
				l[at] = str(s)
				faulty(t, what+", a text for a number", raw(l...), api.ErrForm)
			}
		}
	}
}

func TestDecodeOfOtherFields(t *testing.T) {
	faulty(t, "a text", raw(str("a")), api.ErrForm)
	faulty(t, "an empty text", raw(str("")), api.ErrForm)
	faulty(t, "three texts", raw(str(""), str(""), str("")), api.ErrForm)
	for n := range 40 {
		faulty(t, "zeros", raw(slices.Repeat([]api.Field{num(0)}, n)...), api.ErrForm)
		right(t, "ones", raw(slices.Repeat([]api.Field{num(1)}, n)...))
	}
	many := slices.Repeat([]api.Field{num(0)}, api.MaxFields)
	many[0] = num(1)
	faulty(t, "as many as there may be", raw(many...), api.ErrForm)
	decoded(t, "the first three of them", raw(many[:3]...), api.Item{Lsn: 1})
}

func TestDecodeOfFieldsMoreOrLess(t *testing.T) {
	for what, x := range few() {
		l := list(x)
		for n := range l {
			faulty(t, what+", too few", raw(l[:n]...), api.ErrForm)
			right(t, what+", the last ones", raw(l[n+1:]...))
			right(t, what+", one less", raw(slices.Delete(slices.Clone(l), n, n+1)...))
		}
		for _, f := range []api.Field{num(0), num(1), str(""), str("a")} {
			faulty(t, what+", too many", raw(append(slices.Clone(l), f)...), api.ErrForm)
			for n := range l {
				right(t, what+", one more", raw(slices.Insert(slices.Clone(l), n, f)...))
			}
		}
		faulty(t, what+", twice", raw(append(slices.Clone(l), l...)...), api.ErrForm)
	}
}

// TestDecodeOfCounts: numbers of ops and notes that are not those that are there.
func TestDecodeOfCounts(t *testing.T) {
	for ops := range 6 {
		for notes := range 6 {
			x := some(9, ops, notes)
			for d := int64(-300); d <= 300; d++ {
				if d == 0 {
					continue
				}
				l := list(x)
				l[1].N += d
				faulty(t, "another number of ops", raw(l...), api.ErrForm)
				l = list(x)
				l[2+5*ops].N += d
				faulty(t, "another number of notes", raw(l...), api.ErrForm)
			}
			for _, n := range []int64{math.MinInt64, 256, 257, 4096, 4097, 1<<32 + int64(ops), 1<<32 + int64(notes), 1<<62 + int64(ops), 1<<62 + int64(notes), math.MaxInt64} {
				l := list(x)
				l[1].N = n
				faulty(t, "a number of ops that is none", raw(l...), api.ErrForm)
				l = list(x)
				l[2+5*ops].N = n
				faulty(t, "a number of notes that is none", raw(l...), api.ErrForm)
			}
		}
	}
}

// TestDecodeOfOneTooMany: one op, one note more than there may be, all of them there.
func TestDecodeOfOneTooMany(t *testing.T) {
	for _, c := range []struct {
		ops, notes int
		want       api.Errno
	}{{4096, 256, api.OK}, {4097, 0, api.ErrForm}, {4097, 256, api.ErrForm}, {0, 257, api.ErrForm}, {4096, 257, api.ErrForm}} {
		x := some(api.MaxLsn, c.ops, c.notes)
		if c.want == api.OK {
			decoded(t, "as many as there may be", raw(list(x)...), x)
			continue
		}
		faulty(t, "one too many", raw(list(x)...), c.want)
	}
}

// TestDecodeOfYes: Gone and Done are 0 or 1.
func TestDecodeOfYes(t *testing.T) {
	x := item(9, []api.Op{{Lsn: 1, Key: 1}, {Lsn: 2, Key: 2}}, chunk(1, 0, false), chunk(2, 1, false))
	for place, set := range map[int]func(*api.Item){
		5:  func(y *api.Item) { y.Ops[0].Gone = true },
		10: func(y *api.Item) { y.Ops[1].Gone = true },
		19: func(y *api.Item) { y.Notes[0].Done = true },
		26: func(y *api.Item) { y.Notes[1].Done = true },
	} {
		for _, n := range []int64{math.MinInt64, -256, -2, -1, 2, 3, 255, 256, 257, 1 << 32, 1<<32 + 1, math.MaxInt64} {
			l := list(x)
			l[place] = num(n)
			faulty(t, "neither 0 nor 1", raw(l...), api.ErrForm)
		}
		l := list(x)
		l[place] = num(1)
		y := item(9, slices.Clone(x.Ops), slices.Clone(x.Notes)...)
		set(&y)
		decoded(t, "a 1", raw(l...), y)
		l[place] = num(0)
		decoded(t, "a 0", raw(l...), x)
	}
}

func FuzzDecode(f *testing.F) {
	f.Add([]byte(nil))
	f.Add([]byte{0, 0})
	for _, x := range few() {
		f.Add(raw(list(x)...))
	}
	f.Fuzz(func(t *testing.T, b []byte) {
		right(t, "any bytes", b)
	})
}
