package fold

import (
	"math"
	"slices"
	"strconv"
	"testing"

	"qanat/api"
	"qanat/table"
)

// roomy is transactions whose lists have room behind their ends, with other things in it.
func roomy() []api.Txn {
	changes := []api.Change{put(0, 5, "a"), put(0, 3, "b"), put(1, 3, "c"), put(0, 5, "room"), gone(0, 3)}
	l := []api.Txn{
		{Lsn: 1, Kind: api.TxnClient, Changes: changes[:3], Signals: []string{"s", "t", "room"}[:2]},
		{Lsn: 2, Kind: api.TxnClient, Changes: []api.Change{gone(0, 3), put(0, 4, "d")}},
		client(put(0, 5, "room")),
	}
	return l[:2]
}

// TestHandedInStays: the transactions, and the room behind the ends of their lists, are as they were.
func TestHandedInStays(t *testing.T) {
	l := roomy()
	first := copied(l)
	for _, k := range []int{math.MinInt, -1, 0, 1, 2, 3, math.MaxInt} {
		for n := range api.MaxTables + 2 {
			Fold(n, l, k)
		}
		for _, key := range []int64{3, 4, 5, 6} {
			Value(l, k, 0, key)
			Between(l, k, 2, 0, row(key, "a"))
			Between(l, 0, k, 1, row(key, "room"))
		}
	}
	if !sameTxns(l, first) {
		t.Errorf("handed in: got %+v, want %+v", l[:cap(l)], first[:cap(l)])
	}
	folded(t, "the room behind the ends plays no part", 2, l, 9, rows(row(4, "d"), row(5, "a")), rows(row(3, "c")))
}

// TestHandedInIsNotKept: what becomes of the transactions later is nothing to what was answered, and counts in what is asked then.
func TestHandedInIsNotKept(t *testing.T) {
	l := roomy()
	got := Fold(2, l, 2)
	l[0].Changes[0], l[1].Changes[1] = put(0, 9, "spoilt"), gone(1, 3)
	tablesAre(t, "answered", got, rows(row(4, "d"), row(5, "a")), rows(row(3, "c")))
	folded(t, "asked anew", 2, l, 2, rows(row(9, "spoilt")), nil)
	there(t, "asked anew", l, 2, 0, 9, "spoilt")
	notThere(t, "asked anew", l, 2, 0, 5)
	between(t, "asked anew", l, 0, 2, 0, row(5, "a"), false)
}

// TestWhatIsHandedOutIsNew: who writes into one table, and behind its end, changes no other one and no other answer.
func TestWhatIsHandedOutIsNew(t *testing.T) {
	l := []api.Txn{client(put(0, 5, "a"), put(1, 5, "a"), put(2, 1, "b"), put(2, 2, "c"), put(2, 3, "d"))}
	want := [][]api.Row{rows(row(5, "a")), rows(row(5, "a")), rows(row(1, "b"), row(2, "c"), row(3, "d")), nil}
	first := copied(l)
	for at := range want {
		kept, got := Fold(4, l, 1), Fold(4, l, 1)
		spoil(append(got[at], row(7, "more")))
		spoil(got[at])
		for i := range want {
			if i != at {
				tablesAre(t, "another table of the same answer", got[i:i+1], want[i])
			}
		}
		got[at] = rows(row(1, "more"))
		tablesAre(t, "another answer", kept, want...)
		folded(t, "asked anew", 4, l, 1, want...)
	}
	if !sameTxns(l, first) {
		t.Errorf("handed in: got %+v, want %+v", l, first)
	}
}

// TestTheSameOnceMore: an answer hangs on what was given alone, not on the order of a map's keys.
func TestTheSameOnceMore(t *testing.T) {
	c := choice(12)
	l := script(&c, 5, 100)
	want := Fold(5, l, 40)
	for range 30 {
		tablesAre(t, "once more", Fold(5, l, 40), want...)
	}
}

// script is so many transactions over few keys and vals and n tables, with some of other tables.
func script(c *choice, n, steps int) []api.Txn {
	l := make([]api.Txn, steps)
	for i := range l {
		l[i] = api.Txn{Lsn: int64(i) + 1, Kind: c.below(5)}
		for range c.below(4) {
			l[i].Changes = append(l[i].Changes, api.Change{Table: c.below(n+2) - 1, Key: int64(c.below(5) - 1), Gone: c.below(3) == 0, Val: strconv.Itoa(c.below(3))})
		}
	}
	return l
}

// TestScripts holds all calls of any transactions against the chapter word by word.
func TestScripts(t *testing.T) {
	c := choice(11)
	for round := range 150 {
		n := round%api.MaxTables + 1
		l := script(&c, min(n, 3), c.below(9))
		for k := -1; k <= len(l)+1; k++ {
			folded(t, "a script", n, l, k, plainFold(n, l, k)...)
			for table := -1; table <= min(n, 3); table++ {
				for key := int64(-2); key <= 4; key++ {
					spotIs(t, l, k, table, key)
				}
			}
		}
		if t.Failed() {
			t.FailNow() // all that follows would be told as wrong, too
		}
	}
}

// spotIs asks Value behind k, and Between from k to each number, of one key.
func spotIs(t *testing.T, l []api.Txn, k, table int, key int64) {
	t.Helper()
	if val, ok := plainValue(l, k, table, key); ok {
		there(t, "a script", l, k, table, key, val)
	} else {
		notThere(t, "a script", l, k, table, key)
	}
	for b := -1; b <= len(l)+1; b++ {
		for _, val := range []string{"0", "1", "2", ""} {
			r := row(key, val)
			between(t, "a script", l, k, b, table, r, plainBetween(l, k, b, table, r))
		}
	}
}

// TestWhatFollows: behind one transaction more each table is what it was, and its changes.
func TestWhatFollows(t *testing.T) {
	c := choice(13)
	for n := 1; n <= api.MaxTables; n++ {
		l := script(&c, n, 60)
		for k := range l {
			s, e := table.New(n)
			if e != api.OK {
				t.Fatalf("table.New of %d: %d", n, e)
			}
			for i, rows := range Fold(n, l, k) {
				s.Load(i, rows)
			}
			own := slices.DeleteFunc(slices.Clone(l[k].Changes), func(c api.Change) bool { return c.Table < 0 || c.Table >= n })
			if !s.Apply(own...) {
				t.Fatalf("Apply of %+v", own)
			}
			for i, rows := range Fold(n, l, k+1) {
				tablesAre(t, "behind one more", [][]api.Row{rows}, s.Rows(i))
			}
			folded(t, "of the first ones alone", n, l[:k+1], k+1, Fold(n, l, k+1)...)
		}
	}
}

// TestCallsAgree: what Fold has is what Value tells, and what was there between one number and itself.
func TestCallsAgree(t *testing.T) {
	c := choice(14)
	l := script(&c, 3, 40)
	for k := range len(l) + 1 {
		for i, rows := range Fold(3, l, k) {
			for _, r := range rows {
				there(t, "a row of Fold", l, k, i, r.Key, r.Val)
				between(t, "a row of Fold", l, k, k, i, r, true)
				between(t, "a row of Fold", l, k, k, i, row(r.Key, r.Val+"z"), false)
			}
			for _, key := range keysOf(l) {
				_, has := slices.BinarySearchFunc(rows, key, func(r api.Row, key int64) int { return int(r.Key - key) })
				if _, ok := Value(l, k, i, key); ok != has {
					t.Errorf("behind %d: key %d of table %d: Value tells %v, Fold %v", k, key, i, ok, has)
				}
			}
		}
	}
}
