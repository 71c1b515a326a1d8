package req

import (
	"math"
	"slices"
	"testing"

	"qanat/api"
)

// ask is a request that is not done, and of which no chunk came.
func ask(id, table, weight int, at int64) api.Req {
	return api.Req{ID: id, Table: table, Weight: weight, At: at}
}

// doneOne is the same request, done.
func doneOne(r api.Req) api.Req {
	r.Done = true
	return r
}

// reqs is a list of requests.
func reqs(l ...api.Req) []api.Req { return l }

// many is so many requests that are done, of all tables in turn, each At one above the one ahead.
func many(n int) []api.Req {
	l := make([]api.Req, n)
	for i := range l {
		l[i] = doneOne(ask(i+1, i%api.MaxTables, i%api.MaxWeight+1, int64(i)+1))
	}
	return l
}

// with is a copy of l with f done to the request in that place.
func with(l []api.Req, at int, f func(*api.Req)) []api.Req {
	m := slices.Clone(l)
	f(&m[at])
	return m
}

// number is a number of a request: what sets it, and the least and the greatest that it may be.
type number struct {
	name        string
	set         func(*api.Req, int64)
	least, most int64
}

// numbers is all numbers of a request but its ID, by the chapter's words.
func numbers() []number {
	return []number{
		{"Table", func(r *api.Req, n int64) { r.Table = int(n) }, 0, 7},
		{"Weight", func(r *api.Req, n int64) { r.Weight = int(n) }, 1, 8},
		{"At", func(r *api.Req, n int64) { r.At = n }, 1, 1 << 40},
		{"Cursor", func(r *api.Req, n int64) { r.Cursor = n }, 0, 1 << 40},
		{"Chunks", func(r *api.Req, n int64) { r.Chunks = int(n) }, 0, 1 << 40},
	}
}

// within is the least and the greatest number, and some between them.
func within(least, most int64) []int64 {
	return []int64{least, least + 1, least + (most-least)/2, most - 1, most}
}

// beyond is numbers below the least one and above the greatest, near and far.
func beyond(least, most int64) []int64 {
	return []int64{math.MinInt64, math.MinInt64 + 1, math.MinInt32, -1 << 40, least - 256, least - 2, least - 1, most + 1, most + 2, most + 256, most + 1<<32, most | 1<<41, most | 1<<62, math.MaxInt64 - 1, math.MaxInt64}
}

// may holds May(l) against what it is to be.
func may(t *testing.T, what string, l []api.Req, want bool) {
	t.Helper()
	if got := May(l); got != want {
		t.Errorf("%s: May(%v): got %v, want %v", what, l, got, want)
	}
}

// accepted asks that Accept answers l with that request behind it.
func accepted(t *testing.T, what string, l []api.Req, table, weight int, at int64) []api.Req {
	t.Helper()
	got, ok := Accept(l, table, weight, at)
	want := append(slices.Clone(l), ask(len(l)+1, table, weight, at))
	if !ok || !slices.Equal(got, want) {
		t.Errorf("%s: Accept(%v, %d, %d, %d): got %v, %v, want %v", what, l, table, weight, at, got, ok, want)
	}
	return got
}

// notAccepted asks that Accept answers false, and nothing beside it.
func notAccepted(t *testing.T, what string, l []api.Req, table, weight int, at int64) {
	t.Helper()
	if got, ok := Accept(l, table, weight, at); ok || len(got) != 0 {
		t.Errorf("%s: Accept(%v, %d, %d, %d): got %v, %v, want false", what, l, table, weight, at, got, ok)
	}
}

// chunked asks that Chunk answers l with one more chunk of that request.
func chunked(t *testing.T, what string, l []api.Req, id int, cursor int64, done bool) []api.Req {
	t.Helper()
	got, ok := Chunk(l, id, cursor, done)
	want := slices.Clone(l)
	want[id-1].Cursor = cursor
	want[id-1].Chunks++
	want[id-1].Done = done
	if !ok || !slices.Equal(got, want) {
		t.Errorf("%s: Chunk(%v, %d, %d, %v): got %v, %v, want %v", what, l, id, cursor, done, got, ok, want)
	}
	return got
}

// notChunked asks that Chunk answers false, and nothing beside it, whether the chunk is the last one or not.
func notChunked(t *testing.T, what string, l []api.Req, id int, cursor int64) {
	t.Helper()
	for _, done := range []bool{false, true} {
		if got, ok := Chunk(l, id, cursor, done); ok || len(got) != 0 {
			t.Errorf("%s: Chunk(%v, %d, %d, %v): got %v, %v, want false", what, l, id, cursor, done, got, ok)
		}
	}
}

// opened holds Open(l) against what it is to be.
func opened(t *testing.T, what string, l []api.Req, want ...api.Req) {
	t.Helper()
	if got := Open(l); !slices.Equal(got, want) {
		t.Errorf("%s: Open(%v): got %v, want %v", what, l, got, want)
	}
}

// plainMay is the chapter's "may be" word by word.
func plainMay(l []api.Req) bool {
	if len(l) > 64 {
		return false
	}
	last := map[int]int{}
	for i, r := range l {
		last[r.Table] = i
	}
	for i, r := range l {
		ids := r.ID == i+1
		bounds := 0 <= r.Table && r.Table <= 7 && 1 <= r.Weight && r.Weight <= 8 && 1 <= r.At && r.At <= 1<<40 && 0 <= r.Cursor && r.Cursor <= 1<<40 && 0 <= r.Chunks && r.Chunks <= 1<<40
		rises := i == 0 || l[i-1].At <= r.At
		if !ids || !bounds || !rises || !r.Done && last[r.Table] != i {
			return false
		}
	}
	return true
}

// plainAccept is what Accept does and tells: what comes may not be where the list with it may not be.
func plainAccept(l []api.Req, table, weight int, at int64) ([]api.Req, bool) {
	m := append(slices.Clone(l), ask(len(l)+1, table, weight, at))
	if !plainMay(l) || !plainMay(m) {
		return nil, false
	}
	return m, true
}

// plainChunk is what Chunk does and tells.
func plainChunk(l []api.Req, id int, cursor int64, done bool) ([]api.Req, bool) {
	if !plainMay(l) || id < 1 || id > len(l) {
		return nil, false
	}
	m := slices.Clone(l)
	r := &m[id-1]
	if r.Done || cursor < r.Cursor || cursor > 1<<40 || r.Chunks == 1<<40 {
		return nil, false
	}
	r.Cursor, r.Chunks, r.Done = cursor, r.Chunks+1, done
	return m, true
}

// plainOpen is what Open tells.
func plainOpen(l []api.Req) []api.Req {
	return slices.DeleteFunc(slices.Clone(l), func(r api.Req) bool { return r.Done })
}

// asPlain holds all calls of l against the plain ones.
func asPlain(t *testing.T, what string, l []api.Req, table, weight int, at int64, id int, cursor int64, done bool) {
	t.Helper()
	may(t, what, l, plainMay(l))
	opened(t, what, l, plainOpen(l)...)
	got, ok := Accept(l, table, weight, at)
	want, is := plainAccept(l, table, weight, at)
	if ok != is || !slices.Equal(got, want) {
		t.Errorf("%s: Accept(%v, %d, %d, %d): got %v, %v, want %v, %v", what, l, table, weight, at, got, ok, want, is)
	}
	got, ok = Chunk(l, id, cursor, done)
	want, is = plainChunk(l, id, cursor, done)
	if ok != is || !slices.Equal(got, want) {
		t.Errorf("%s: Chunk(%v, %d, %d, %v): got %v, %v, want %v, %v", what, l, id, cursor, done, got, ok, want, is)
	}
}

// choice tells numbers that look like chance, and are the same in each run.
type choice uint64

// below is the next number, from 0 to one less than n.
func (c *choice) below(n int) int {
	*c = *c*6364136223846793005 + 1442695040888963407
	return int(uint64(*c) >> 33 % uint64(n))
}

// of is one of those numbers.
func (c *choice) of(l ...int64) int64 { return l[c.below(len(l))] }
