package req

import (
	"math"
	"slices"
	"testing"

	"qanat/api"
)

func TestExample(t *testing.T) {
	l, ok := Accept(nil, 3, 1, 7)
	if want := reqs(api.Req{ID: 1, Table: 3, Weight: 1, At: 7}); !ok || !slices.Equal(l, want) {
		t.Errorf("the example: got %v, %v, want %v", l, ok, want)
	}
	notAccepted(t, "the example", l, 3, 1, 8)
}

func TestMayOfCounts(t *testing.T) {
	may(t, "none", nil, true)
	may(t, "none", reqs(), true)
	for n := range api.MaxReqs + 1 {
		may(t, "up to MaxReqs", many(n), true)
	}
	for _, n := range []int{1, 2, 64, 1000} {
		may(t, "more than MaxReqs", many(api.MaxReqs+n), false)
	}
	for n := range api.MaxTables + 1 {
		l := many(n)
		for i := range l {
			l[i].Done = false
		}
		may(t, "one of each table that is not done", l, true)
	}
}

func TestMayOfIDs(t *testing.T) {
	for at := range 5 {
		for _, id := range []int{math.MinInt, -1, 0, 1, 2, 3, 4, 5, 6, 64, 65, 1 << 32, 1<<32 + at + 1, math.MaxInt} {
			may(t, "another ID", with(many(5), at, func(r *api.Req) { r.ID = id }), id == at+1)
		}
	}
	for _, ids := range [][]int{{2}, {0, 1}, {2, 3}, {1, 1}, {2, 1}, {1, 3}, {1, 3, 2}, {3, 2, 1}, {1, 2, 2}, {1, 2, 4}, {-1, -2}, {1, -2}} {
		l := many(len(ids))
		for i := range l {
			l[i].ID = ids[i]
		}
		may(t, "IDs that do not go 1, 2, ..", l, false)
	}
}

func TestMayOfNumbers(t *testing.T) {
	for _, n := range numbers() {
		for _, done := range []bool{false, true} {
			one := reqs(api.Req{ID: 1, Weight: 1, At: 1, Done: done})
			for _, v := range within(n.least, n.most) {
				may(t, n.name+" in its bounds", with(one, 0, func(r *api.Req) { n.set(r, v) }), true)
			}
			for _, v := range beyond(n.least, n.most) {
				may(t, n.name+" out of its bounds", with(one, 0, func(r *api.Req) { n.set(r, v) }), false)
			}
		}
	}
}

// TestMayOfNumbersAnywhere: one that is out of its bounds counts in whatever place of a list.
func TestMayOfNumbersAnywhere(t *testing.T) {
	for _, n := range numbers() {
		for _, count := range []int{2, 3, api.MaxReqs} {
			for at := range count {
				may(t, n.name+": one less", with(many(count), at, func(r *api.Req) { n.set(r, n.least-1) }), false)
				may(t, n.name+": one more", with(many(count), at, func(r *api.Req) { n.set(r, n.most+1) }), false)
			}
		}
	}
	for at := range 3 {
		l := with(many(3), at, func(r *api.Req) { r.Cursor, r.Chunks = api.MaxKey, api.MaxLsn })
		may(t, "Cursor and Chunks hang on none ahead", l, true)
	}
}

func TestMayOfAtsInTurn(t *testing.T) {
	for _, x := range []struct {
		ats  []int64
		want bool
	}{
		{[]int64{1, 1}, true}, {[]int64{1, 2}, true}, {[]int64{2, 1}, false}, {[]int64{7, 7, 7}, true}, {[]int64{7, 6}, false}, {[]int64{7, 8, 7}, false}, {[]int64{7, 6, 8}, false}, {[]int64{1, 1 << 40}, true}, {[]int64{1 << 40, 1 << 40}, true}, {[]int64{1 << 40, 1<<40 - 1}, false}, {[]int64{1 << 40, 1}, false}, {[]int64{1, 1<<40 + 1}, false}, {[]int64{0, 0}, false}, {[]int64{0, 1}, false}, {[]int64{1 << 32, 1}, false},
	} {
		l := many(len(x.ats))
		for i := range l {
			l[i].At = x.ats[i]
		}
		may(t, "Ats", l, x.want)
	}
	for at := 1; at < api.MaxReqs; at++ {
		same := with(many(api.MaxReqs), at, func(r *api.Req) { r.At-- })
		may(t, "the same as the one ahead", same, true)
		may(t, "below the one ahead", with(same, at, func(r *api.Req) { r.At-- }), false)
	}
}

// TestMayOfOneTable goes through all ways in which the requests of one table are done or not: but the last one all are.
func TestMayOfOneTable(t *testing.T) {
	for n := 1; n <= 6; n++ {
		for bits := range 1 << n {
			l := many(n)
			for i := range l {
				l[i].Table, l[i].Done = 5, bits>>i&1 == 1
			}
			may(t, "of one table", l, bits|1<<(n-1) == 1<<n-1)
		}
	}
}

// TestMayOfTables goes through all ways in which a few requests are of two tables, and done or not.
func TestMayOfTables(t *testing.T) {
	for bits := range 1 << 8 {
		l := many(4)
		open := map[int]bool{}
		want := true
		for i := range l {
			l[i].Table, l[i].Done = bits>>i&1*7, bits>>(i+4)&1 == 1
			want = want && !open[l[i].Table]
			open[l[i].Table] = !l[i].Done
		}
		may(t, "of two tables", l, want)
	}
	far := many(api.MaxReqs)
	for i := range far {
		far[i].Table = i%7 + 1
	}
	far[0].Table, far[0].Done = 0, false
	may(t, "one that is not done, and none of its table behind it", far, true)
	far[63].Table = 0
	may(t, "one that is not done, and the last one of its table", far, false)
	far[0].Done = true
	may(t, "both done", far, true)
	far[63].Done = false
	may(t, "the last one alone not done", far, true)
}

func TestAcceptOfNone(t *testing.T) {
	for table := range 8 {
		for weight := 1; weight <= 8; weight++ {
			for _, at := range within(1, 1<<40) {
				accepted(t, "behind none", nil, table, weight, at)
				accepted(t, "behind none", reqs(), table, weight, at)
			}
		}
	}
}

func TestAcceptOfNumbers(t *testing.T) {
	for _, l := range [][]api.Req{nil, many(1), many(8), many(63), reqs(ask(1, 3, 1, 1))} {
		at := int64(len(l)) + 1
		for _, v := range beyond(0, 7) {
			notAccepted(t, "no such table", l, int(v), 1, at)
		}
		for _, v := range beyond(1, 8) {
			notAccepted(t, "no such weight", l, 0, int(v), at)
		}
		for _, v := range beyond(1, 1<<40) {
			notAccepted(t, "no such At", l, 0, 1, v)
		}
		accepted(t, "the greatest ones", l, 7, 8, 1<<40)
		accepted(t, "the least ones", l, 0, 1, at)
	}
}

func TestAcceptOfAtsInTurn(t *testing.T) {
	l := reqs(doneOne(ask(1, 3, 1, 5)), ask(2, 2, 8, 9))
	for _, at := range []int64{9, 10, 11, 1 << 32, 1<<40 - 1, 1 << 40} {
		accepted(t, "an At that is not below the last one's", l, 1, 1, at)
	}
	for _, at := range []int64{math.MinInt64, -9, 0, 1, 4, 5, 6, 8} {
		notAccepted(t, "an At below the last one's", l, 1, 1, at)
	}
	last := reqs(ask(1, 3, 1, 1<<40))
	accepted(t, "behind the greatest At", last, 1, 1, 1<<40)
	notAccepted(t, "behind the greatest At", last, 1, 1, 1<<40-1)
	notAccepted(t, "behind the greatest At", last, 1, 1, 1<<40+1)
}

func TestAcceptOfOneTable(t *testing.T) {
	for table := range 8 {
		open := reqs(doneOne(ask(1, table, 1, 1)), ask(2, table, 2, 2))
		done := reqs(open[0], doneOne(open[1]))
		for other := range 8 {
			accepted(t, "all of the table are done", done, other, 3, 3)
			if other == table {
				notAccepted(t, "one of the table is not done", open, other, 3, 3)
			} else {
				accepted(t, "one of another table is not done", open, other, 3, 3)
			}
		}
	}
	one := reqs(ask(1, 4, 1, 1), doneOne(ask(2, 5, 1, 1)), ask(3, 6, 1, 1))
	for table, ok := range []bool{true, true, true, true, false, true, false, true} {
		if ok {
			accepted(t, "one of each kind", one, table, 1, 1)
		} else {
			notAccepted(t, "one of each kind", one, table, 1, 1)
		}
	}
	began := reqs(api.Req{ID: 1, Table: 4, Weight: 1, At: 1, Cursor: api.MaxKey, Chunks: api.MaxLsn})
	notAccepted(t, "not done, though it can't go on", began, 4, 1, 1)
}

func TestAcceptUpToMaxReqs(t *testing.T) {
	var l []api.Req
	for i := range api.MaxReqs {
		l = accepted(t, "one more", l, i%api.MaxTables, 1, 1)
		if len(l) != i+1 {
			t.Fatalf("got %d requests, want %d", len(l), i+1)
		}
		l[i].Done = true
	}
	for table := -1; table <= 8; table++ {
		notAccepted(t, "behind MaxReqs", l, table, 1, 1)
	}
	l[63].Done = false
	notAccepted(t, "behind MaxReqs, the last one not done", l, 0, 1, 1)
	notAccepted(t, "behind one more than MaxReqs", many(65), 0, 1, 100)
	notAccepted(t, "behind far more than MaxReqs", many(1000), 0, 1, 1000)
}

// wrong is lists that may not be, for one reason each.
func wrong() [][]api.Req {
	good := reqs(doneOne(ask(1, 3, 1, 5)), ask(2, 3, 8, 6), ask(3, 7, 2, 7))
	l := [][]api.Req{many(65), many(66)}
	for at := range good {
		for _, n := range numbers() {
			l = append(l, with(good, at, func(r *api.Req) { n.set(r, n.least-1) }), with(good, at, func(r *api.Req) { n.set(r, n.most+1) }))
		}
		l = append(l, with(good, at, func(r *api.Req) { r.ID++ }), with(good, at, func(r *api.Req) { r.ID-- }))
	}
	l = append(l, with(good, 0, func(r *api.Req) { r.Done = false }), with(good, 0, func(r *api.Req) { r.At = 8 }), with(good, 2, func(r *api.Req) { r.At = 5 }), with(good, 2, func(r *api.Req) { r.Table = 3 }))
	return append(l, good[1:], reqs(good[0], good[0]), reqs(good[0], good[2]), reqs(good[1], good[0]), reqs(api.Req{}))
}

func TestCallsOfWhatMayNotBe(t *testing.T) {
	for _, l := range wrong() {
		may(t, "what may not be", l, false)
		for table := range 8 {
			for _, at := range []int64{1, 5, 6, 7, 8, 100, 1 << 40} {
				notAccepted(t, "behind what may not be", l, table, 1, at)
			}
		}
		for id := -1; id <= len(l)+1; id++ {
			for _, cursor := range []int64{0, 1, 1 << 40} {
				notChunked(t, "of what may not be", l, id, cursor)
			}
		}
		opened(t, "of what may not be", l, plainOpen(l)...)
	}
}

func TestChunkOfIDs(t *testing.T) {
	for n := range api.MaxTables + 1 {
		l := many(n)
		for i := range l {
			l[i].Done = false
		}
		for id := 1; id <= n; id++ {
			chunked(t, "each one", l, id, 5, false)
			chunked(t, "each one", l, id, 5, true)
		}
		for _, id := range []int{math.MinInt, -1 << 32, -n, -1, 0, n + 1, n + 2, 64, 65, 1 << 32, 1<<32 + 1, math.MaxInt} {
			notChunked(t, "no such one", l, id, 5)
		}
	}
	l := many(api.MaxReqs)
	l[63].Done = false
	chunked(t, "the last one of MaxReqs", l, 64, 0, true)
}

func TestChunkOfCursors(t *testing.T) {
	for _, at := range []int64{0, 1, 5, 1 << 32, 1<<40 - 1, 1 << 40} {
		l := reqs(ask(1, 0, 1, 1), api.Req{ID: 2, Table: 3, Weight: 1, At: 7, Cursor: at})
		for _, cursor := range []int64{at, at + 1, at + 2, 1<<40 - 1, 1 << 40} {
			if cursor >= at && cursor <= 1<<40 {
				chunked(t, "not below its Cursor", l, 2, cursor, false)
				chunked(t, "not below its Cursor", l, 2, cursor, true)
			}
		}
		for _, cursor := range []int64{math.MinInt64, -1 << 40, -1, at - 2, at - 1} {
			notChunked(t, "below its Cursor", l, 2, cursor)
		}
		for _, cursor := range beyond(0, 1<<40) {
			notChunked(t, "out of all bounds", l, 2, cursor)
		}
		chunked(t, "another one's Cursor is nothing to it", l, 1, 0, false)
	}
}

func TestChunkOfChunks(t *testing.T) {
	for _, n := range []int{0, 1, 63, 1<<32 - 1, 1 << 32, 1<<40 - 2, 1<<40 - 1} {
		l := reqs(doneOne(ask(1, 3, 1, 7)), api.Req{ID: 2, Table: 3, Weight: 1, At: 7, Cursor: 9, Chunks: n})
		chunked(t, "one more", l, 2, 9, true)
		m := chunked(t, "one more", l, 2, 9, false)
		if n == 1<<40-1 {
			may(t, "MaxLsn", m, true)
			notChunked(t, "one behind MaxLsn", m, 2, 9)
		}
	}
}

// TestChunkOfOneThatIsDone: it stays as it is, whatever its numbers are.
func TestChunkOfOneThatIsDone(t *testing.T) {
	for _, r := range reqs(ask(1, 3, 1, 7), api.Req{ID: 1, Weight: 8, At: 1, Cursor: 5, Chunks: 2}, api.Req{ID: 1, Weight: 8, At: 1, Cursor: api.MaxKey, Chunks: api.MaxLsn}) {
		l := reqs(doneOne(r), ask(2, 3, 1, 1<<40))
		for _, cursor := range []int64{0, 5, 6, 1 << 40} {
			notChunked(t, "done", l, 1, cursor)
			chunked(t, "the next one of its table", l, 2, cursor, true)
		}
	}
}

// TestChunkToTheEnd: one request from its acceptance to its last chunk, and the next one of its table.
func TestChunkToTheEnd(t *testing.T) {
	l := accepted(t, "the first", nil, 3, 1, 7)
	l = accepted(t, "beside it", l, 0, 8, 7)
	for i, cursor := range []int64{0, 0, 4, 4, 9} {
		notAccepted(t, "under way", l, 3, 1, 8)
		l = chunked(t, "a chunk", l, 1, cursor, false)
		if l[0].Chunks != i+1 {
			t.Errorf("Chunks: got %d, want %d", l[0].Chunks, i+1)
		}
		notChunked(t, "back", l, 1, cursor-1)
		opened(t, "under way", l, l...)
	}
	l = chunked(t, "the last one", l, 1, 9, true)
	notChunked(t, "done", l, 1, 9)
	opened(t, "done", l, l[1])
	l = accepted(t, "the next one", l, 3, 2, 8)
	opened(t, "the next one", l, l[1:]...)
	chunked(t, "the next one begins at 0", l, 3, 0, false)
	want := reqs(api.Req{ID: 1, Table: 3, Weight: 1, At: 7, Cursor: 9, Chunks: 6, Done: true}, api.Req{ID: 2, Table: 0, Weight: 8, At: 7}, api.Req{ID: 3, Table: 3, Weight: 2, At: 8})
	if !slices.Equal(l, want) {
		t.Errorf("behind all: got %v, want %v", l, want)
	}
}

func TestOpen(t *testing.T) {
	opened(t, "none", nil)
	opened(t, "none", reqs())
	opened(t, "all done", many(64))
	opened(t, "all done, more than MaxReqs", many(100))
	for bits := range 1 << 8 {
		l := many(8)
		var want []api.Req
		for i := range l {
			l[i].Done = bits>>i&1 == 0
			if !l[i].Done {
				want = append(want, l[i])
			}
		}
		opened(t, "those that are not done", l, want...)
	}
	long := many(1000)
	for i := range long {
		long[i].Done = false
	}
	opened(t, "any: too many", long, long...)
	opened(t, "any: no order", reqs(ask(9, 1, 1, 1), doneOne(ask(-1, 1, 1, 1)), ask(9, -1, 0, -5), ask(3, 1<<40, 9, 0)), ask(9, 1, 1, 1), ask(9, -1, 0, -5), ask(3, 1<<40, 9, 0))
	opened(t, "any: zero", reqs(api.Req{}, api.Req{Done: true}), api.Req{})
	opened(t, "any: the same one", reqs(ask(1, 1, 1, 1), ask(1, 1, 1, 1)), ask(1, 1, 1, 1), ask(1, 1, 1, 1))
}
