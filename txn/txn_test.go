package txn

import (
	"bytes"
	"math"
	"slices"
	"strings"
	"testing"

	"qanat/api"
	"qanat/field"
)

func TestExample(t *testing.T) {
	want := "\x00\x05" + "\x01\x00\x00\x00\x00\x00\x00\x00\x01" + "\x01\x00\x00\x00\x00\x00\x00\x00\x01" + strings.Repeat("\x01\x00\x00\x00\x00\x00\x00\x00\x00", 3)
	x := api.Txn{Lsn: 1, Kind: api.TxnClient}
	b, e := Encode(x)
	if e != api.OK || len(b) != 47 || string(b) != want {
		t.Errorf("got % x, %d, want % x", b, e, want)
	}
	if l, _ := field.Decode(b); len(l) != 5 {
		t.Errorf("got %d fields, want 5", len(l))
	}
	decoded(t, "the example", []byte(want), x)
}

func TestKnownBytes(t *testing.T) {
	x := api.Txn{Lsn: 0x0102030405, Kind: api.TxnClient, Changes: []api.Change{{Table: 3, Key: 0x0607, Val: "ab"}, {Table: 4, Key: 8, Gone: true}}, Signals: []string{"c", ""}}
	want := "\x00\x0f" +
		"\x01\x00\x00\x00\x01\x02\x03\x04\x05" + "\x01\x00\x00\x00\x00\x00\x00\x00\x01" + "\x01\x00\x00\x00\x00\x00\x00\x00\x00" +
		"\x01\x00\x00\x00\x00\x00\x00\x00\x02" +
		"\x01\x00\x00\x00\x00\x00\x00\x00\x03" + "\x01\x00\x00\x00\x00\x00\x00\x06\x07" + "\x01\x00\x00\x00\x00\x00\x00\x00\x00" + "\x02\x00\x02ab" +
		"\x01\x00\x00\x00\x00\x00\x00\x00\x04" + "\x01\x00\x00\x00\x00\x00\x00\x00\x08" + "\x01\x00\x00\x00\x00\x00\x00\x00\x01" + "\x02\x00\x00" +
		"\x01\x00\x00\x00\x00\x00\x00\x00\x02" + "\x02\x00\x01c" + "\x02\x00\x00"
	if b, e := Encode(x); e != api.OK || string(b) != want {
		t.Errorf("got % x, %d, want % x", b, e, want)
	}
	decoded(t, "known bytes", []byte(want), x)

	m := api.Txn{Lsn: 9, Kind: api.TxnHigh, Mark: 0x0a0b}
	want = "\x00\x05\x01\x00\x00\x00\x00\x00\x00\x00\x09\x01\x00\x00\x00\x00\x00\x00\x00\x03\x01\x00\x00\x00\x00\x00\x00\x0a\x0b" + strings.Repeat("\x01\x00\x00\x00\x00\x00\x00\x00\x00", 2)
	if b, e := Encode(m); e != api.OK || string(b) != want {
		t.Errorf("a mark: got % x, %d, want % x", b, e, want)
	}
	decoded(t, "a mark's known bytes", []byte(want), m)
}

func TestMayChange(t *testing.T) {
	for what, c := range goodChanges() {
		if !MayChange(c, api.MaxTables) {
			t.Errorf("%s: %#v may be", what, c)
		}
	}
	for what, c := range badChanges() {
		if MayChange(c, api.MaxTables) {
			t.Errorf("%s: %#v may not be", what, c)
		}
	}
}

// TestMayChangeAmong: the tables count as they are given, more than MaxTables and fewer than none, too.
func TestMayChangeAmong(t *testing.T) {
	edges := []int{math.MinInt, math.MinInt + 1, -api.MaxTables, -2, -1, 0, 1, 2, 3, api.MaxTables - 1, api.MaxTables, api.MaxTables + 1, 100, 1000, 1 << 32, math.MaxInt - 1, math.MaxInt}
	for _, tables := range edges {
		for _, n := range edges {
			want := n >= 0 && n < tables
			for _, c := range []api.Change{{Table: n, Key: 1}, {Table: n, Key: api.MaxKey, Gone: true}, {Table: n, Key: 7, Val: strings.Repeat("v", api.MaxVal)}} {
				if MayChange(c, tables) != want {
					t.Errorf("%#v among %d tables: want %v", c, tables, want)
				}
			}
			for _, c := range []api.Change{{Table: n}, {Table: n, Key: api.MaxKey + 1}, {Table: n, Key: 7, Val: strings.Repeat("v", api.MaxVal+1)}, {Table: n, Key: 7, Gone: true, Val: "v"}} {
				if MayChange(c, tables) {
					t.Errorf("%#v among %d tables may not be", c, tables)
				}
			}
		}
	}
}

func TestGood(t *testing.T) {
	for what, x := range good() {
		if !May(x) {
			t.Errorf("%s: %#v may be", what, x)
		}
		want, fe := field.Encode(list(x)...)
		b, e := Encode(x)
		if e != api.OK || fe != api.OK || !bytes.Equal(b, want) || !bytes.Equal(b, raw(list(x)...)) {
			t.Errorf("Encode, %s: got % x, %d, want % x", what, b, e, want)
		}
		decoded(t, what, want, x)
	}
}

func TestBad(t *testing.T) {
	for what, x := range bad() {
		if May(x) {
			t.Errorf("%s: %#v may not be", what, x)
		}
		if b, e := Encode(x); e != api.ErrArg || len(b) != 0 {
			t.Errorf("Encode, %s: got % x, %d, want ErrArg alone", what, b, e)
		}
		// What may not be may have fields all the same.
		if b, e := field.Encode(list(x)...); e == api.OK {
			faulty(t, what, b, api.ErrForm)
		}
	}
}

// TestNumbersOfATransaction goes through Lsn, Kind and Mark together.
func TestNumbersOfATransaction(t *testing.T) {
	numbers := []int64{math.MinInt64, math.MinInt64 + 1, -api.MaxLsn, -1, 0, 1, 2, 255, 256, 1 << 32, api.MaxLsn - 1, api.MaxLsn, api.MaxLsn + 1, 1<<41 + 1, 1<<56 + 1, math.MaxInt64}
	kinds := []int{math.MinInt, -257, -3, -2, -1, 0, api.TxnClient, api.TxnLow, api.TxnHigh, 4, 5, 256 + 1, 256 + 2, 1<<16 + 1, 1<<32 + 1, 1<<32 + 2, 1<<32 + 3, math.MaxInt}
	for _, lsn := range numbers {
		for _, mark := range numbers {
			for _, kind := range kinds {
				for _, x := range []api.Txn{{Lsn: lsn, Kind: kind, Mark: mark}, {Lsn: lsn, Kind: kind, Mark: mark, Changes: changes(2)}, {Lsn: lsn, Kind: kind, Mark: mark, Signals: []string{"a"}}} {
					holds(t, x)
				}
			}
		}
	}
}

// plainMay is the chapter's words for a transaction whose changes and signals may be, one by one.
func plainMay(x api.Txn) bool {
	lsn := 1 <= x.Lsn && x.Lsn <= 1<<40
	none := len(x.Changes)+len(x.Signals) == 0
	mark := 1 <= x.Mark && x.Mark <= 1<<40
	return lsn && (x.Kind == 1 && x.Mark == 0 || x.Kind == 2 && mark && none || x.Kind == 3 && mark && none)
}

// holds holds all of a transaction's calls against plainMay.
func holds(t *testing.T, x api.Txn) {
	t.Helper()
	want := plainMay(x)
	if May(x) != want {
		t.Errorf("May(%#v): want %v", x, want)
	}
	fields := raw(list(x)...)
	b, e := Encode(x)
	if want {
		if e != api.OK || !bytes.Equal(b, fields) {
			t.Errorf("Encode(%#v): got % x, %d, want % x", x, b, e, fields)
		}
		decoded(t, "what may be", fields, x)
		return
	}
	if e != api.ErrArg || len(b) != 0 {
		t.Errorf("Encode(%#v): got % x, %d, want ErrArg alone", x, b, e)
	}
	faulty(t, "what may not be", fields, api.ErrForm)
}

func TestHowManyOfEach(t *testing.T) {
	for n := range 2 * api.MaxChanges {
		for s := range 5 {
			x := client(changes(n), make([]string, s)...)
			want := n <= 16 && s <= 2
			if May(x) != want {
				t.Errorf("%d changes, %d signals: want %v", n, s, want)
			}
			if _, e := Encode(x); (e == api.OK) != want {
				t.Errorf("%d changes, %d signals: Encode answers %d", n, s, e)
			}
			if want {
				decoded(t, "so many", raw(list(x)...), x)
			} else {
				faulty(t, "too many", raw(list(x)...), api.ErrForm)
			}
		}
	}
}

func TestLengths(t *testing.T) {
	for n := range 64 {
		s := strings.Repeat("x", n)
		for _, x := range []api.Txn{client(nil, s), client(nil, "", s), client(nil, s, "")} {
			if May(x) != (n <= 40) {
				t.Errorf("a signal of %d bytes: May answers %v", n, May(x))
			}
		}
		c := api.Change{Key: 1, Val: s}
		if MayChange(c, 1) != (n <= 32) || May(client([]api.Change{c})) != (n <= 32) {
			t.Errorf("a value of %d bytes: %v, %v", n, MayChange(c, 1), May(client([]api.Change{c})))
		}
		c.Gone = true
		if MayChange(c, 1) != (n == 0) || May(client([]api.Change{c})) != (n == 0) {
			t.Errorf("gone with a value of %d bytes: %v, %v", n, MayChange(c, 1), May(client([]api.Change{c})))
		}
	}
}

// clone is x with lists of its own, with room behind their ends.
func clone(x api.Txn) api.Txn {
	x.Changes = append(slices.Clone(x.Changes), api.Change{Table: 6, Key: 6, Val: "room"}, api.Change{Key: -1})[:len(x.Changes)]
	x.Signals = append(slices.Clone(x.Signals), "room", "behind")[:len(x.Signals)]
	return x
}

// behind is what clone left behind the ends of the lists of x.
func behind(x api.Txn) api.Txn {
	return api.Txn{Changes: x.Changes[len(x.Changes) : len(x.Changes)+2], Signals: x.Signals[len(x.Signals) : len(x.Signals)+2]}
}

func TestHandedInIsNotChanged(t *testing.T) {
	all := good()
	for what, x := range bad() {
		all["bad: "+what] = x
	}
	for what, x := range all {
		a, b := clone(x), clone(x)
		May(a)
		Encode(a)
		if !same(a, b) || !same(behind(a), behind(b)) {
			t.Errorf("%s: the transaction was changed", what)
		}
		bytesOf := raw(list(x)...)
		room := append(slices.Clone(bytesOf), "behind the end"...)
		kept := slices.Clone(room)
		got, _ := Decode(room[:len(bytesOf)])
		clear(got.Changes[:cap(got.Changes)])
		clear(got.Signals[:cap(got.Signals)])
		Decode(room)
		if !bytes.Equal(room, kept) {
			t.Errorf("%s: the bytes were changed", what)
		}
	}
}

func TestHandedInIsNotKept(t *testing.T) {
	x := clone(full())
	b, _ := Encode(x)
	clear(x.Changes)
	clear(x.Signals)
	if !bytes.Equal(b, raw(list(full())...)) {
		t.Error("what was encoded hangs on the transaction")
	}
	got, _ := Decode(b)
	clear(b[:cap(b)])
	if !same(got, full()) {
		t.Error("what was decoded hangs on the bytes")
	}
}

func TestHandedOutIsNew(t *testing.T) {
	a, _ := Encode(full())
	b, _ := Encode(full())
	clear(a[:cap(a)])
	c, _ := Encode(full())
	if want := raw(list(full())...); !bytes.Equal(b, want) || !bytes.Equal(c, want) {
		t.Error("two answers of Encode share memory")
	}
	first, _ := Decode(b)
	second, _ := Decode(b)
	clear(first.Changes[:cap(first.Changes)])
	if !slices.Equal(first.Signals, full().Signals) {
		t.Error("two lists of one answer share memory")
	}
	clear(first.Signals[:cap(first.Signals)])
	third, _ := Decode(b)
	if !same(second, full()) || !same(third, full()) {
		t.Error("two answers of Decode share memory")
	}
}
