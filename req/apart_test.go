package req

import (
	"math"
	"slices"
	"testing"

	"qanat/api"
)

// spoil writes into all of l, and into the room behind its end.
func spoil(l []api.Req) {
	l = l[:cap(l)]
	for i := range l {
		l[i] = api.Req{ID: -9, Table: -9, Weight: -9, At: -9, Cursor: -9, Chunks: -9, Done: i%2 == 0}
	}
}

// roomy is requests with room behind their end, in which others stand.
func roomy() []api.Req {
	l := reqs(doneOne(ask(1, 3, 1, 5)), ask(2, 0, 8, 6), ask(3, 3, 2, 7), ask(4, 1, 1, 8), ask(9, 9, 9, 9))
	return l[:3]
}

// whole is l, and the room behind its end.
func whole(l []api.Req) []api.Req { return l[:cap(l)] }

// TestHandedInStays: no call writes into what it is handed, or behind its end.
func TestHandedInStays(t *testing.T) {
	l := roomy()
	first := slices.Clone(whole(l))
	May(l)
	for table := range 8 {
		Accept(l, table, 1, 7)
		Accept(l, table, 9, 7)
	}
	for id := range 6 {
		for _, cursor := range []int64{-1, 0, 5, api.MaxKey, math.MaxInt64} {
			Chunk(l, id, cursor, false)
			Chunk(l, id, cursor, true)
		}
	}
	Open(l)
	if !slices.Equal(whole(l), first) {
		t.Errorf("handed in: got %v, want %v", whole(l), first)
	}
	accepted(t, "the room behind the end plays no part", l, 1, 1, 7)
}

// TestAnswersAreApart: neither what is handed in nor another answer changes with what becomes of an answer, nor an answer with them.
func TestAnswersAreApart(t *testing.T) {
	calls := map[string]func(l []api.Req) []api.Req{
		"Accept": func(l []api.Req) []api.Req { m, _ := Accept(l, 1, 1, 9); return m },
		"Chunk":  func(l []api.Req) []api.Req { m, _ := Chunk(l, 2, 5, true); return m },
		"Open":   Open,
	}
	all := map[string]func() []api.Req{
		"with room behind it": roomy,
		"without":             func() []api.Req { return slices.Clip(roomy()) },
		"none of it done":     func() []api.Req { return slices.Clip(reqs(ask(1, 1, 1, 1), ask(2, 2, 1, 1))) },
	}
	for name, call := range calls {
		for kind, list := range all {
			l := list()
			first := slices.Clone(whole(l))
			kept, got := call(l), call(l)
			want := slices.Clone(kept)
			spoil(got)
			if !slices.Equal(whole(l), first) || !slices.Equal(kept, want) {
				t.Errorf("%s of a list %s: its answer spoilt: got %v, and another answer %v, want %v, %v", name, kind, whole(l), kept, first, want)
			}
			spoil(l)
			if !slices.Equal(kept, want) {
				t.Errorf("%s of a list %s: what was handed in spoilt: got %v, want %v", name, kind, kept, want)
			}
		}
	}
}

// few is requests with numbers of small ranges, so that some lists of them may be.
func few(c *choice) []api.Req {
	l := make([]api.Req, c.below(5))
	at := int64(1)
	for i := range l {
		at += c.of(0, 0, 1, 1<<39)
		l[i] = api.Req{ID: i + 1, Table: c.below(8), Weight: c.below(8) + 1, At: at, Cursor: c.of(0, 3, 1<<40), Chunks: int(c.of(0, 1, 1<<40-1, 1<<40)), Done: c.below(3) > 0}
	}
	if len(l) > 0 && c.below(3) == 0 {
		n := numbers()[c.below(5)]
		n.set(&l[c.below(len(l))], c.of(n.least-1, n.least, n.most, n.most+1))
	}
	if len(l) > 0 && c.below(8) == 0 {
		l[c.below(len(l))].ID = c.below(6)
	}
	return l
}

// TestAnyLists holds all calls of any lists against the chapter word by word.
func TestAnyLists(t *testing.T) {
	c := choice(14)
	be := 0
	for range 100_000 {
		l := few(&c)
		if May(l) {
			be++
		}
		asPlain(t, "any list", l, c.below(10)-1, c.below(10), c.of(0, 1, 2, 3, 1<<39, 1<<40, 1<<40+1), c.below(7)-1, c.of(-1, 0, 2, 3, 4, 1<<40, 1<<40+1), c.below(2) == 0)
		if t.Failed() {
			t.FailNow() // all that follows would be told as wrong, too
		}
	}
	if be < 10_000 || be > 90_000 {
		t.Errorf("%d of 100000 lists may be: one of both kinds is hardly asked", be)
	}
}

// step does one more thing to l, by both the calls and the plain ones.
func step(t *testing.T, c *choice, l []api.Req) []api.Req {
	t.Helper()
	at := int64(1)
	if len(l) > 0 {
		at = max(1, l[len(l)-1].At+c.of(-1, 0, 0, 1, 1, 5))
	}
	id, cursor, done := c.below(len(l)+2), c.of(0, 5, 9, 1<<40), c.below(2) == 0
	if id > 0 && id <= len(l) {
		cursor = l[id-1].Cursor + c.of(-1, 0, 1, 9)
	}
	table, weight := c.below(8), c.below(8)+1
	asPlain(t, "a script", l, table, weight, at, id, cursor, done)
	next, ok := Accept(l, table, weight, at)
	if c.below(3) > 0 {
		next, ok = Chunk(l, id, cursor, done)
	}
	if !ok {
		return l
	}
	return next
}

// TestScripts: whatever is accepted and told, the lists may be, and one that is done stays as it is.
func TestScripts(t *testing.T) {
	c := choice(15)
	for range 10 {
		var l []api.Req
		done := map[int]api.Req{}
		for range 4000 {
			l = step(t, &c, l)
			may(t, "behind a step", l, true)
			for _, r := range l {
				was, ok := done[r.ID]
				if ok && was != r {
					t.Errorf("done as %v: got %v", was, r)
				}
				if r.Done {
					done[r.ID] = r
				}
			}
			opened(t, "behind a step", l, plainOpen(l)...)
			if t.Failed() {
				t.FailNow() // all that follows would be told as wrong, too
			}
		}
		if len(l) != api.MaxReqs {
			t.Errorf("a script came to %d requests, want %d", len(l), api.MaxReqs)
		}
	}
}

// TestDoneStays: whatever is accepted or told of others, one that is done is the same behind it.
func TestDoneStays(t *testing.T) {
	first := api.Req{ID: 1, Table: 3, Weight: 1, At: 7, Cursor: 5, Chunks: 2, Done: true}
	l := reqs(first)
	l = accepted(t, "another table", l, 0, 1, 7)
	l = accepted(t, "its table anew", l, 3, 8, 7)
	for _, id := range []int{2, 3, 3, 2} {
		l = chunked(t, "of others", l, id, 9, false)
	}
	l = chunked(t, "of others", l, 3, api.MaxKey, true)
	l = accepted(t, "its table once more", l, 3, 2, 9)
	if l[0] != first {
		t.Errorf("done: got %v, want %v", l[0], first)
	}
	for cursor := range int64(12) {
		notChunked(t, "done", l, 1, cursor)
	}
}
