package batch

import (
	"slices"
	"strconv"
	"strings"
	"testing"

	"qanat/api"
)

// zeros is so many fields of the number 0, as bytes.
func zeros(n int) string { return strings.Repeat("\x01\x00\x00\x00\x00\x00\x00\x00\x00", n) }

// small is a field of a number below 256, as bytes.
func small(n byte) string { return "\x01\x00\x00\x00\x00\x00\x00\x00" + string([]byte{n}) }

func TestKnownBytes(t *testing.T) {
	for what, c := range map[string]struct {
		x    api.Item
		want string
	}{
		"the least": {api.Item{Lsn: 1}, "\x00\x03" + small(1) + zeros(2)},
		"two ops": {
			item(0x0102030405, []api.Op{{Lsn: 0x0607, Table: 3, Key: 0x0809, Val: "ab"}, {Lsn: 5, Table: 7, Key: 4, Gone: true}}),
			"\x00\x0d" + "\x01\x00\x00\x00\x01\x02\x03\x04\x05" + small(2) +
				"\x01\x00\x00\x00\x00\x00\x00\x06\x07" + small(3) + "\x01\x00\x00\x00\x00\x00\x00\x08\x09" + small(0) + "\x02\x00\x02ab" +
				small(5) + small(7) + small(4) + small(1) + "\x02\x00\x00" +
				zeros(1),
		},
		"two notes": {
			item(9, nil, accept(64, 6, 5, 7), chunk(3, 0x0a0b, true)),
			"\x00\x11" + small(9) + zeros(1) + small(2) +
				small(1) + small(64) + small(6) + small(5) + small(7) + zeros(2) +
				small(2) + small(3) + zeros(3) + "\x01\x00\x00\x00\x00\x00\x00\x0a\x0b" + small(1),
		},
	} {
		if b, e := Encode(c.x); e != api.OK || string(b) != c.want {
			t.Errorf("Encode of %s: got % x, %d, want % x", what, b, e, c.want)
		}
		decoded(t, what, []byte(c.want), c.x)
	}
}

// counts is how many there may be of what most of are the most.
func counts(most int) []int { return []int{0, 1, 2, 3, most - 1, most} }

func TestCounts(t *testing.T) {
	for _, ops := range counts(api.MaxOps) {
		for _, notes := range counts(api.MaxNotes) {
			mayBe(t, "so many", some(api.MaxLsn, ops, notes))
		}
		mayNotBe(t, "a note too many", some(api.MaxLsn, ops, api.MaxNotes+1))
		mayNotBe(t, "far too many notes", some(9, ops, 4*api.MaxNotes))
	}
	for _, notes := range append(counts(api.MaxNotes), api.MaxNotes+1) {
		mayNotBe(t, "an op too many", some(api.MaxLsn, api.MaxOps+1, notes))
		mayNotBe(t, "far too many ops", some(9, 2*api.MaxOps, notes))
	}
	mayBe(t, "empty lists", item(1, []api.Op{}, []api.Note{}...))
	mayBe(t, "the same twice", item(2, []api.Op{{Lsn: 1, Key: 1}, {Lsn: 1, Key: 1}}, chunk(1, 0, false), chunk(1, 0, false)))
}

// TestLsnOfAnItem: an item's Lsn is bounded whatever it has, and what it has by its Lsn.
func TestLsnOfAnItem(t *testing.T) {
	for _, lsn := range far(1, api.MaxLsn) {
		for _, x := range []api.Item{{Lsn: lsn}, item(lsn, []api.Op{{Lsn: 1, Key: 1}}), item(lsn, nil, accept(1, 0, 1, 1)), item(lsn, nil, chunk(1, 0, false)), {Lsn: lsn, Ops: someOps(2, 3), Notes: someNotes(2, 3)}} {
			may(t, "an Lsn", x)
		}
		if want := lsn >= 1 && lsn <= 1<<40; May(api.Item{Lsn: lsn}) != want {
			t.Errorf("May of an item of the Lsn %d alone: want %v", lsn, want)
		}
	}
}

// opNumber is a number of an op: what sets it, and the least and the greatest that it may be in an item of the Lsn 9.
type opNumber struct {
	name        string
	set         func(*api.Op, int64)
	least, most int64
}

// opNumbers is all numbers of an op.
func opNumbers() []opNumber {
	return []opNumber{
		{"Lsn", func(o *api.Op, n int64) { o.Lsn = n }, 1, 9},
		{"Table", func(o *api.Op, n int64) { o.Table = int(n) }, 0, 7},
		{"Key", func(o *api.Op, n int64) { o.Key = n }, 1, 1 << 40},
	}
}

// withOp is items of the Lsn 9 that have o: alone, first, between others, last.
func withOp(o api.Op) map[string]api.Item {
	l := someOps(9, 4)
	return map[string]api.Item{
		"alone":   item(9, []api.Op{o}),
		"first":   item(9, append([]api.Op{o}, l...), chunk(1, 0, false)),
		"between": item(9, slices.Insert(slices.Clone(l), 2, o)),
		"last":    item(9, append(slices.Clone(l), o), someNotes(9, 3)...),
	}
}

// opIs asks whether an op may be in an item of the Lsn 9.
func opIs(t *testing.T, what string, o api.Op, want bool) {
	t.Helper()
	for where, x := range withOp(o) {
		if may(t, what, x) != want {
			t.Errorf("%s, %s: May(%v): want %v", what, where, o, want)
		}
	}
}

func TestNumbersOfAnOp(t *testing.T) {
	for _, k := range opNumbers() {
		for _, n := range far(k.least, k.most) {
			want := n >= k.least && n <= k.most
			for _, o := range []api.Op{{Lsn: 3, Table: 4, Key: 5}, {Lsn: 1, Table: 0, Key: 1, Gone: true}, {Lsn: 9, Table: 7, Key: api.MaxKey, Val: strings.Repeat("v", 32)}} {
				k.set(&o, n)
				opIs(t, k.name, o, want)
			}
		}
	}
}

// TestLsnsOfOps: an op's Lsn is from 1 to the item's, whatever that one is.
func TestLsnsOfOps(t *testing.T) {
	for _, lsn := range []int64{1, 2, 3, 256, 1 << 32, api.MaxLsn - 1, api.MaxLsn} {
		for _, n := range append(far(1, lsn), lsn/2+1) {
			want := n >= 1 && n <= lsn
			x := item(lsn, []api.Op{{Lsn: n, Key: 1}})
			if may(t, "an op's Lsn", x) != want {
				t.Errorf("May(%v): want %v", x, want)
			}
			x = item(lsn, nil, accept(1, 0, 1, n))
			if may(t, "a note's At", x) != want {
				t.Errorf("May(%v): want %v", x, want)
			}
		}
	}
	mayBe(t, "Lsns in whatever order", item(9, []api.Op{{Lsn: 9, Key: 1}, {Lsn: 1, Key: 1}, {Lsn: 5, Key: 1}, {Lsn: 5, Key: 1}}))
}

func TestVals(t *testing.T) {
	for _, n := range []int{0, 1, 2, 31, 32, 33, 34, 255, 256, 257, 288, 4096, 4097, 1 << 16} {
		val := strings.Repeat("v", n)
		opIs(t, "a val of "+strconv.Itoa(n), api.Op{Lsn: 1, Key: 1, Val: val}, n <= 32)
		opIs(t, "gone, a val of "+strconv.Itoa(n), api.Op{Lsn: 1, Key: 1, Gone: true, Val: val}, n == 0)
	}
	opIs(t, "bytes, not runes", api.Op{Lsn: 1, Key: 1, Val: "\xff\x00\xfe"}, true)
	opIs(t, "16 runes of 2 bytes", api.Op{Lsn: 1, Key: 1, Val: strings.Repeat("ü", 16)}, true)
	opIs(t, "17 runes of 2 bytes", api.Op{Lsn: 1, Key: 1, Val: strings.Repeat("ü", 17)}, false)
	opIs(t, "gone, a val of a zero", api.Op{Lsn: 1, Key: 1, Gone: true, Val: "\x00"}, false)
}

// noteNumber is a number of a note: what sets it, and the least and the greatest that it may be in an item of the Lsn 9, if it is of NoteAccept, and of NoteChunk.
type noteNumber struct {
	name           string
	set            func(*api.Note, int64)
	accepts, takes [2]int64
}

// noteNumbers is all numbers of a note but its Kind.
func noteNumbers() []noteNumber {
	return []noteNumber{
		{"ID", func(n *api.Note, v int64) { n.ID = int(v) }, [2]int64{1, 64}, [2]int64{1, 64}},
		{"Table", func(n *api.Note, v int64) { n.Table = int(v) }, [2]int64{0, 7}, [2]int64{0, 0}},
		{"Weight", func(n *api.Note, v int64) { n.Weight = int(v) }, [2]int64{1, 8}, [2]int64{0, 0}},
		{"At", func(n *api.Note, v int64) { n.At = v }, [2]int64{1, 9}, [2]int64{0, 0}},
		{"Cursor", func(n *api.Note, v int64) { n.Cursor = v }, [2]int64{0, 0}, [2]int64{0, 1 << 40}},
	}
}

// noteIs asks whether a note may be in an item of the Lsn 9.
func noteIs(t *testing.T, what string, n api.Note, want bool) {
	t.Helper()
	l := someNotes(9, 4)
	for where, x := range map[string]api.Item{
		"alone":   item(9, nil, n),
		"first":   item(9, nil, append([]api.Note{n}, l...)...),
		"between": item(9, someOps(9, 2), slices.Insert(slices.Clone(l), 2, n)...),
		"last":    item(9, someOps(9, 1), append(slices.Clone(l), n)...),
	} {
		if may(t, what, x) != want {
			t.Errorf("%s, %s: May(%v): want %v", what, where, n, want)
		}
	}
}

func TestNumbersOfANote(t *testing.T) {
	for _, k := range noteNumbers() {
		for _, v := range append(far(k.accepts[0], k.accepts[1]), far(k.takes[0], k.takes[1])...) {
			for _, n := range []api.Note{accept(5, 3, 4, 6), accept(1, 0, 1, 1), accept(64, 7, 8, 9)} {
				k.set(&n, v)
				noteIs(t, k.name+" of NoteAccept", n, within(v, k.accepts[0], k.accepts[1]))
			}
			for _, n := range []api.Note{chunk(5, 7, false), chunk(1, 0, true), chunk(64, api.MaxKey, true)} {
				k.set(&n, v)
				noteIs(t, k.name+" of NoteChunk", n, within(v, k.takes[0], k.takes[1]))
			}
		}
	}
}

// TestDoneOfANote: a chunk is done or not; what is accepted is not done.
func TestDoneOfANote(t *testing.T) {
	for _, done := range []bool{false, true} {
		for _, cursor := range []int64{0, 1, api.MaxKey} {
			noteIs(t, "a chunk", chunk(3, cursor, done), true)
			noteIs(t, "a chunk beyond MaxKey", chunk(3, api.MaxKey+1, done), false)
		}
		n := accept(3, 1, 1, 1)
		n.Done = done
		noteIs(t, "accepted", n, !done)
	}
}

func TestKinds(t *testing.T) {
	for _, kind := range far(1, 2) {
		a, c, z := accept(5, 3, 4, 6), chunk(5, 7, true), api.Note{ID: 1}
		a.Kind, c.Kind, z.Kind = int(kind), int(kind), int(kind)
		noteIs(t, "a Kind, with what is accepted", a, kind == 1)
		noteIs(t, "a Kind, with a chunk", c, kind == 2)
		noteIs(t, "a Kind alone", z, kind == 2)
	}
	noteIs(t, "nothing", api.Note{}, false)
	noteIs(t, "a Kind without an ID", api.Note{Kind: api.NoteChunk}, false)
}

// TestNotesOfBothKinds: what a note of one Kind has makes one of the other wrong.
func TestNotesOfBothKinds(t *testing.T) {
	for bits := range 1 << 5 {
		n := api.Note{ID: 2, Table: bits & 1, Weight: bits >> 1 & 1, At: int64(bits >> 2 & 1), Cursor: int64(bits >> 3 & 1), Done: bits>>4&1 == 1}
		n.Kind = api.NoteAccept
		noteIs(t, "NoteAccept", n, bits&^1 == 6)
		n.Kind = api.NoteChunk
		noteIs(t, "NoteChunk", n, bits&7 == 0)
	}
}

// TestWrongInEachPlace: one op or note that may not be, among as many as there may be.
func TestWrongInEachPlace(t *testing.T) {
	x := some(api.MaxLsn, api.MaxOps, api.MaxNotes)
	for _, at := range []int{0, 1, 17, api.MaxOps/2 + 1, api.MaxOps - 2, api.MaxOps - 1} {
		y := x
		y.Ops = slices.Clone(x.Ops)
		y.Ops[at].Lsn = api.MaxLsn + 1
		mayNotBe(t, "an op of "+strconv.Itoa(at), y)
	}
	for at := range x.Notes {
		y := x
		y.Notes = slices.Clone(x.Notes)
		y.Notes[at].ID = 65
		if May(y) {
			t.Errorf("the note of %d is none: May of that: got true", at)
		}
	}
}

// anyItem is an item of numbers around all bounds, so that about half of them may be.
func anyItem(c *choice) api.Item {
	x := api.Item{Lsn: c.of(1, 2, 9, 9, 9, api.MaxLsn)}
	if c.below(12) == 0 {
		x.Lsn = c.of(0, -1, api.MaxLsn+1)
	}
	for range c.below(4) {
		x.Ops = append(x.Ops, api.Op{Lsn: 1, Table: c.below(8), Key: c.of(1, 2, api.MaxKey), Gone: true})
		if o := &x.Ops[len(x.Ops)-1]; c.below(3) > 0 {
			o.Gone, o.Val = c.below(12) == 0, strings.Repeat("\xfe", int(c.of(0, 1, 2, 31, 32)))
		} else if c.below(8) == 0 {
			k := opNumbers()[c.below(3)]
			k.set(o, c.of(k.least-1, k.least, k.most, k.most+1))
		}
	}
	for range c.below(4) {
		n := accept(c.below(64)+1, c.below(8), c.below(8)+1, 1)
		if c.below(2) == 0 {
			n = chunk(c.below(64)+1, c.of(0, 1, api.MaxKey), c.below(2) == 0)
		}
		if k := noteNumbers()[c.below(5)]; c.below(8) == 0 {
			k.set(&n, c.of(k.accepts[0]-1, k.accepts[0], k.accepts[1], k.accepts[1]+1, k.takes[0], k.takes[1], k.takes[1]+1))
		}
		x.Notes = append(x.Notes, n)
	}
	return x
}

// TestAnyItems holds all calls of any items against the chapter word by word.
func TestAnyItems(t *testing.T) {
	c := choice(16)
	be := 0
	for range 30_000 {
		x := anyItem(&c)
		if may(t, "any item", x) {
			be++
		}
		if t.Failed() {
			t.FailNow() // all that follows would be told as wrong, too
		}
	}
	if be < 10_000 || be > 25_000 {
		t.Errorf("%d of 30000 items may be: one of both kinds is hardly asked", be)
	}
}
