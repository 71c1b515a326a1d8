package batch

import (
	"slices"
	"testing"

	"qanat/api"
)

// roomy is items with room behind the ends of their lists, and of all of them, in which others stand.
func roomy() []api.Item {
	a := item(300, []api.Op{{Lsn: 1, Key: 1, Val: "a"}, {Lsn: 2, Key: 2, Gone: true}, {Lsn: 99, Table: 99, Key: -1}}, accept(1, 2, 3, 4), chunk(5, 6, true), api.Note{Kind: 9, ID: 99})
	b := item(301, []api.Op{{Lsn: 3, Key: 3}, {Lsn: 99, Table: 99, Key: -1}, {Lsn: 99}}, chunk(7, 8, false), api.Note{Kind: 9}, api.Note{Kind: 8})
	a.Ops, a.Notes, b.Ops, b.Notes = a.Ops[:2], a.Notes[:2], b.Ops[:1], b.Notes[:1]
	return []api.Item{a, b, {Lsn: 302}}[:2]
}

// whole is a copy of all of l, with the room behind all ends.
func whole(l []api.Item) []api.Item {
	l = slices.Clone(l[:cap(l)])
	for i, x := range l {
		l[i] = item(x.Lsn, slices.Clone(x.Ops[:cap(x.Ops)]), slices.Clone(x.Notes[:cap(x.Notes)])...)
	}
	return l
}

// spoil writes into all of x, and into the room behind its ends.
func spoil(x api.Item) {
	ops, notes := x.Ops[:cap(x.Ops)], x.Notes[:cap(x.Notes)]
	for i := range ops {
		ops[i] = api.Op{Lsn: -9, Table: -9, Key: -9, Gone: i%2 == 0, Val: "spoilt"}
	}
	for i := range notes {
		notes[i] = api.Note{Kind: -9, ID: -9, Table: -9, Weight: -9, At: -9, Cursor: -9, Done: i%2 == 0}
	}
}

// spoilBytes likewise writes into bytes.
func spoilBytes(b []byte) {
	b = b[:cap(b)]
	for i := range b {
		b[i] ^= 0xff
	}
}

// TestHandedInStays: no call writes into what it is handed, or behind its ends.
func TestHandedInStays(t *testing.T) {
	l := roomy()
	first := whole(l)
	for _, x := range l {
		mayBe(t, "the room behind the ends plays no part", x)
	}
	joins(t, "the room behind the ends plays no part", item(301, slices.Concat(l[0].Ops, l[1].Ops), slices.Concat(l[0].Notes, l[1].Notes)...), l...)
	Join(l[1], l[0])
	Join(l[:1]...)
	if !slices.EqualFunc(whole(l), first, same) {
		t.Errorf("handed in: got %v, want %v", whole(l), first)
	}

	b := append(raw(list(several())...), "behind the end"...)
	was := slices.Clone(b)
	decoded(t, "with room behind it", b[:len(b)-14], several())
	faulty(t, "the room with it", b, api.ErrForm)
	if !slices.Equal(b, was) {
		t.Errorf("handed in: got % x, want % x", b, was)
	}
}

// TestEncodedIsNew: the bytes have nothing in common with the item, nor with other bytes.
func TestEncodedIsNew(t *testing.T) {
	x := roomy()[0]
	want := raw(list(x)...)
	kept, _ := Encode(x)
	other, _ := Encode(x)
	spoilBytes(other)
	mayBe(t, "its bytes spoilt", x)
	if !slices.Equal(raw(list(x)...), want) || !slices.Equal(kept, want) {
		t.Errorf("other bytes spoilt: got % x, the item %v, want % x", kept, x, want)
	}
	spoil(x)
	if !slices.Equal(kept, want) {
		t.Errorf("the item spoilt: got % x, want % x", kept, want)
	}
}

// TestDecodedIsNew: the item has nothing in common with the bytes, nor with another item.
func TestDecodedIsNew(t *testing.T) {
	b := raw(list(several())...)
	first := slices.Clone(b)
	kept, _ := Decode(b)
	other, _ := Decode(b)
	spoil(other)
	if !same(kept, several()) || !slices.Equal(b, first) {
		t.Errorf("another item spoilt: got %v, the bytes % x, want %v, % x", kept, b, several(), first)
	}
	spoilBytes(b)
	if !same(kept, several()) {
		t.Errorf("the bytes spoilt: got %v, want %v", kept, several())
	}
}

// TestJoinedIsNew: the answer has nothing in common with the items, also where it is all of one, nor with another answer.
func TestJoinedIsNew(t *testing.T) {
	for what, list := range map[string]func() []api.Item{
		"both":                 roomy,
		"one":                  func() []api.Item { return roomy()[:1] },
		"one, and empty ones":  func() []api.Item { return append([]api.Item{{Lsn: 2}}, append(roomy()[:1], api.Item{Lsn: 400})...) },
		"without room":         func() []api.Item { return whole(roomy()[:1])[:0] },
		"one, without room":    func() []api.Item { return []api.Item{several()} },
		"ops and notes alone":  func() []api.Item { return []api.Item{item(2, roomy()[0].Ops), item(4, nil, roomy()[0].Notes...)} },
		"an op, a note":        func() []api.Item { return []api.Item{some(1, 1, 1), {Lsn: 2}} },
		"the same lists twice": func() []api.Item { x := roomy()[0]; y := x; y.Lsn++; return []api.Item{x, y} },
	} {
		l := list()
		first := whole(l)
		want, _ := plainJoin(l)
		kept, _ := Join(l...)
		other, _ := Join(l...)
		spoil(other)
		if !same(kept, want) || !slices.EqualFunc(whole(l), first, same) {
			t.Errorf("%s: another answer spoilt: got %v, the items %v, want %v, %v", what, kept, l, want, first)
		}
		for _, x := range l {
			spoil(x)
		}
		clear(l)
		if !same(kept, want) {
			t.Errorf("%s: the items spoilt: got %v, want %v", what, kept, want)
		}
	}
}

// TestAskedTwice: what was done with others plays no part.
func TestAskedTwice(t *testing.T) {
	x, y := several(), some(301, 5, 5)
	b, _ := Encode(x)
	for range 3 {
		mayBe(t, "once more", x)
		mayNotBe(t, "one that may not be", api.Item{})
		joins(t, "once more", item(301, slices.Concat(x.Ops, y.Ops), slices.Concat(x.Notes, y.Notes)...), x, y)
		joinsNot(t, "not in order", api.ErrOrder, y, x)
		decoded(t, "once more", b, x)
		faulty(t, "cut", b[:9], api.ErrShort)
	}
}
