package batch

import (
	"slices"
	"strconv"
	"testing"

	"qanat/api"
)

func TestExample(t *testing.T) {
	joins(t, "the example", api.Item{Lsn: 2}, api.Item{Lsn: 1}, api.Item{Lsn: 2})
	joinsNot(t, "the example", api.ErrOrder, api.Item{Lsn: 2}, api.Item{Lsn: 2})
}

func TestJoinOfNone(t *testing.T) {
	joinsNot(t, "none", api.ErrArg)
	joinsNot(t, "an empty list", api.ErrArg, []api.Item{}...)
}

func TestJoinOfOne(t *testing.T) {
	for what, x := range few() {
		joins(t, what, x, x)
	}
	x := some(api.MaxLsn, api.MaxOps, api.MaxNotes)
	joins(t, "with all that there may be", x, x)
	joins(t, "of empty lists", api.Item{Lsn: 3}, item(3, []api.Op{}, []api.Note{}...))
	joinsNot(t, "nothing", api.ErrArg, api.Item{})
}

func TestJoinOfSeveral(t *testing.T) {
	a := item(2, []api.Op{{Lsn: 1, Table: 3, Key: 1, Val: "a"}, {Lsn: 2, Key: 9, Gone: true}}, accept(1, 3, 2, 2))
	b := item(5, []api.Op{{Lsn: 5, Table: 7, Key: 2}}, chunk(1, 4, false), chunk(2, 5, true))
	c := item(api.MaxLsn, []api.Op{{Lsn: 1, Table: 3, Key: 1, Val: "a"}}, chunk(1, 4, false))
	joins(t, "two", item(5, []api.Op{a.Ops[0], a.Ops[1], b.Ops[0]}, a.Notes[0], b.Notes[0], b.Notes[1]), a, b)
	joins(t, "three", item(api.MaxLsn, []api.Op{a.Ops[0], a.Ops[1], b.Ops[0], c.Ops[0]}, a.Notes[0], b.Notes[0], b.Notes[1], c.Notes[0]), a, b, c)
	joins(t, "with empty ones", item(9, []api.Op{a.Ops[0], a.Ops[1], b.Ops[0]}, a.Notes[0], b.Notes[0], b.Notes[1]), api.Item{Lsn: 1}, a, api.Item{Lsn: 3}, api.Item{Lsn: 4}, b, api.Item{Lsn: 9})
	joins(t, "of ops alone, and of notes alone", item(5, a.Ops, b.Notes...), item(2, a.Ops), item(5, nil, b.Notes...))
	joins(t, "of notes alone, and of ops alone", item(5, b.Ops, a.Notes...), item(2, nil, a.Notes...), item(5, b.Ops))
}

// TestJoinOfMany: as many items as there are.
func TestJoinOfMany(t *testing.T) {
	for _, n := range []int{2, 64, 256, 257, 5000, 100_000} {
		l := make([]api.Item, n)
		want := api.Item{Lsn: int64(2*n - 1)}
		for i := range l {
			l[i].Lsn = int64(2*i + 1)
			if i < 4096 {
				l[i].Ops = []api.Op{{Lsn: int64(i) + 1, Key: int64(i) + 7}}
			}
			if i < 256 {
				l[i].Notes = []api.Note{chunk(i%64+1, int64(i), i%5 == 0)}
			}
			want = item(want.Lsn, append(want.Ops, l[i].Ops...), append(want.Notes, l[i].Notes...)...)
		}
		joins(t, strconv.Itoa(n)+" items", want, l...)
		l[n-1].Lsn = l[n-2].Lsn
		l[n-1].Ops = nil
		if got := joinedAsPlain(t, "the last one's Lsn not above the one ahead", l...); got != api.ErrOrder {
			t.Errorf("%d items: the error is %d", n, got)
		}
		l[n-1].Lsn = 0
		joinsNot(t, "the last one none", api.ErrArg, l...)
	}
}

func TestJoinOrder(t *testing.T) {
	lsns := []int64{1, 2, 3, 255, 256, 1 << 32, api.MaxLsn - 1, api.MaxLsn}
	for _, a := range lsns {
		for _, b := range lsns {
			for _, c := range lsns {
				want := api.ErrOrder
				if a < b && b < c {
					want = api.OK
				}
				if got := joinedAsPlain(t, "three Lsns", api.Item{Lsn: a}, api.Item{Lsn: b}, api.Item{Lsn: c}); got != want {
					t.Errorf("Lsns of %d, %d, %d: the error is %d, want %d", a, b, c, got, want)
				}
			}
			if e := joinedAsPlain(t, "two Lsns", api.Item{Lsn: a}, api.Item{Lsn: b}); (e == api.OK) != (a < b) {
				t.Errorf("Lsns of %d, %d: the error is %d", a, b, e)
			}
		}
	}
	joinsNot(t, "falling, with ops above the last one's Lsn", api.ErrOrder, item(9, []api.Op{{Lsn: 9, Key: 1}}, accept(1, 0, 1, 9)), api.Item{Lsn: 8})
}

// wrong is items that may not be, each of the Lsn 5, if it may be.
func wrong() map[string]api.Item {
	long := string(make([]byte, 33))
	return map[string]api.Item{
		"nothing":         {},
		"below 0":         {Lsn: -1},
		"MaxLsn + 1":      {Lsn: api.MaxLsn + 1},
		"an op ahead":     item(5, []api.Op{{Lsn: 6, Key: 1}}),
		"an op of no key": item(5, []api.Op{{Lsn: 5}}),
		"a long val":      item(5, []api.Op{{Lsn: 5, Key: 1, Val: long}}),
		"a val, gone":     item(5, []api.Op{{Lsn: 5, Key: 1, Gone: true, Val: "a"}}),
		"no ID":           item(5, nil, chunk(0, 0, false)),
		"no Kind":         item(5, nil, api.Note{ID: 1}),
		"an At ahead":     item(5, nil, accept(1, 0, 1, 6)),
		"too many ops":    some(5, 4097, 0),
		"too many notes":  some(5, 0, 257),
	}
}

// TestJoinOfOneThatMayNotBe: in each place, whether the Lsns rise or not.
func TestJoinOfOneThatMayNotBe(t *testing.T) {
	for what, x := range wrong() {
		for n := range 5 {
			l := make([]api.Item, n)
			for i := range l {
				l[i].Lsn = int64(i) + 3 // with the one of 5 among them they do not rise
			}
			for at := range n + 1 {
				joinsNot(t, what, api.ErrArg, slices.Insert(slices.Clone(l), at, x)...)
			}
			for i := range l {
				l[i].Lsn = 7 // they are the same
			}
			for at := range n + 1 {
				joinsNot(t, what+", Lsns that do not rise", api.ErrArg, slices.Insert(slices.Clone(l), at, x)...)
			}
		}
		joinsNot(t, what+", Lsns that rise", api.ErrArg, api.Item{Lsn: 4}, x, api.Item{Lsn: 6})
		joinsNot(t, what+", the first", api.ErrArg, x, api.Item{Lsn: 6})
		joinsNot(t, what+", the last", api.ErrArg, api.Item{Lsn: 4}, x)
	}
}

// TestJoinOfTooMany: the ops, and the notes, are counted in all.
func TestJoinOfTooMany(t *testing.T) {
	for _, c := range []struct {
		ops, notes []int
		want       api.Errno
	}{
		{[]int{4095, 1}, []int{255, 1}, api.OK},
		{[]int{4096, 0}, []int{0, 256}, api.OK},
		{[]int{0, 4096}, []int{256, 0}, api.OK},
		{[]int{2048, 2048}, []int{128, 128}, api.OK},
		{[]int{4096, 1}, []int{0, 0}, api.ErrArg},
		{[]int{1, 4096}, []int{0, 0}, api.ErrArg},
		{[]int{2048, 2049}, []int{1, 1}, api.ErrArg},
		{[]int{4096, 4096}, []int{0, 0}, api.ErrArg},
		{[]int{0, 0}, []int{256, 1}, api.ErrArg},
		{[]int{0, 0}, []int{1, 256}, api.ErrArg},
		{[]int{1, 1}, []int{128, 129}, api.ErrArg},
		{[]int{0, 0}, []int{256, 256}, api.ErrArg},
		{[]int{4096, 1}, []int{256, 1}, api.ErrArg},
		{[]int{2000, 2000, 96}, []int{100, 100, 56}, api.OK},
		{[]int{2000, 2000, 97}, []int{100, 100, 56}, api.ErrArg},
		{[]int{2000, 2000, 96}, []int{100, 100, 57}, api.ErrArg},
	} {
		rising, flat := make([]api.Item, len(c.ops)), make([]api.Item, len(c.ops))
		for i := range rising {
			rising[i] = some(int64(i)+9, c.ops[i], c.notes[i])
			flat[i] = some(9, c.ops[i], c.notes[i])
		}
		if got := joinedAsPlain(t, "in all", rising...); got != c.want {
			t.Errorf("ops of %v, notes of %v: the error is %d, want %d", c.ops, c.notes, got, c.want)
		}
		want := c.want
		if want == api.OK {
			want = api.ErrOrder
		}
		joinsNot(t, "in all, Lsns that do not rise", want, flat...)
	}
}

// TestJoinedMayBe: what is joined may be, and may be joined in pieces.
func TestJoinedMayBe(t *testing.T) {
	c := choice(17)
	seen := map[api.Errno]int{}
	for range 20_000 {
		l := make([]api.Item, c.below(5))
		lsn := int64(0)
		for i := range l {
			lsn = max(lsn+c.of(0, 1, 1, 1, 1, 5, 1<<20), 1)
			l[i] = some(lsn, c.below(3), c.below(3))
			if c.below(40) == 0 {
				l[i] = anyItem(&c)
			}
		}
		e := joinedAsPlain(t, "any items", l...)
		seen[e]++
		if e == api.OK {
			x, _ := Join(l...)
			mayBe(t, "joined", x)
			cut := c.below(len(l)) + 1
			y, _ := Join(l[:cut]...)
			joins(t, "in pieces", x, append([]api.Item{y}, l[cut:]...)...)
		}
		if t.Failed() {
			t.FailNow() // all that follows would be told as wrong, too
		}
	}
	if seen[api.OK] < 5000 || seen[api.ErrArg] < 2000 || seen[api.ErrOrder] < 2000 {
		t.Errorf("how often each error came: %v: one of them hardly did", seen)
	}
}
