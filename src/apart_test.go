package src

import (
	"fmt"
	"slices"
	"testing"

	"qanat/api"
	"qanat/disk"
)

// spoil writes into all of l, and into the room behind its end.
func spoil[T any](l []T, with T) {
	l = l[:cap(l)]
	for i := range l {
		l[i] = with
	}
}

// roomy is l with room behind its end, in which something stands.
func roomy[T any](l []T, more ...T) []T {
	return append(slices.Clone(l), more...)[:len(l)]
}

// TestWhatIsHandedInStays: the lists that Commit takes, with the room behind their ends, are as they were.
func TestWhatIsHandedInStays(t *testing.T) {
	for what, list := range map[string][]api.Change{
		"taken":           {put(0, 5, "a"), put(1, 3, "b"), put(0, 5, "c"), gone(1, 9)},
		"what may not be": {put(0, 5, "a"), put(0, 0, "b")},
		"no such table":   {put(0, 5, "a"), put(2, 1, "b")},
		"no changes":      nil,
	} {
		d := disk.New()
		s := opened(t, d, 2)
		for range 3 {
			l, signals := roomy(list, put(1, 1, "room"), gone(1, 3)), roomy([]string{"snapshot 1"}, "room", "behind")
			first, names := slices.Clone(l[:len(l)+2]), slices.Clone(signals[:3])
			s.Commit(signals, l...)
			same(t, what+": the changes", slices.Equal(l[:len(l)+2], first), true)
			same(t, what+": the signals", slices.Equal(signals[:3], names), true)
			trims(t, s, s.Head())
			was, stood := told(s), state(d)
			spoil(l, put(0, 77, "spoilt"))
			spoil(signals, "spoilt")
			same(t, what+": the source", told(s), was)
			same(t, what+": the disk", state(d), stood)
		}
		powerGoes(d)
		l := roomy(list, put(1, 1, "room"))
		s.Commit(nil, l...)
		same(t, what+": with power off", slices.Equal(l, list), true)
	}
}

func TestWhatIsHandedOutIsNew(t *testing.T) {
	d := disk.New()
	s := opened(t, d, 2)
	s.Commit([]string{"snapshot 1", "x"}, put(0, 5, "a"), put(0, 7, "b"), put(1, 3, "c"))
	s.Commit(nil, put(0, 9, "d"), gone(0, 9))
	for range 2 {
		was, stood := told(s), state(d)
		x, _ := s.Read(1)
		y, _ := s.Read(1)
		all, piece := s.Rows(0), s.Chunk(0, 5, 1)
		spoil(x.Changes, put(1, 1, "spoilt"))
		same(t, "two lists of one answer", fmt.Sprintf("%q", x.Signals), `["snapshot 1" "x"]`)
		spoil(x.Signals, "spoilt")
		for _, l := range [][]api.Row{s.Rows(0), s.Rows(1), s.Rows(2), s.Chunk(0, 0, 1), s.Chunk(0, 5, 9), s.Chunk(2, 0, 1)} {
			spoil(l, row(1, "spoilt"))
			spoil(append(l, row(2, "more")), row(1, "spoilt"))
		}
		same(t, "the source", told(s), was)
		same(t, "the disk", state(d), stood)
		commits(t, s, gone(0, 5), put(0, 7, "z"), put(0, 6, "y"))
		trims(t, s, 1)
		same(t, "an earlier transaction", some(y), some(api.Txn{Lsn: 1, Kind: api.TxnClient, Changes: []api.Change{put(0, 5, "a"), put(0, 7, "b"), put(1, 3, "c")}, Signals: []string{"snapshot 1", "x"}}))
		rowsAre(t, "earlier rows", all, row(5, "a"), row(7, "b"))
		rowsAre(t, "an earlier chunk", piece, row(7, "b"))
		// And once more of one that was opened anew, by the image and the log.
		d = disk.New()
		lay(d, imageA, picture(t, 0, rows(row(5, "a"), row(7, "b")), nil))
		lay(d, api.SourceBase, part(1, laid(t, y), laid(t, client(2))))
		s = opened(t, d, 2)
	}
}

// TestSourcesAreApart: what is done with one changes nothing of another one.
func TestSourcesAreApart(t *testing.T) {
	a, b := disk.New(), disk.New()
	one, two := opened(t, a, 2), opened(t, b, 2)
	commits(t, one, put(0, 1, "a"))
	commits(t, two, put(0, 1, "a"))
	was, stood := told(two), state(b)
	commits(t, one, gone(0, 1), put(1, 5, "b"))
	trims(t, one, 2)
	powerGoes(a)
	one.Commit(nil, put(0, 2, "c"))
	same(t, "the other", told(two), was)
	same(t, "its disk", state(b), stood)
	commits(t, two, put(0, 2, "d"))
	rowsAre(t, "the one", one.Rows(0))
	rowsAre(t, "the other", two.Rows(0), row(1, "a"), row(2, "d"))
}

// TestTheTablesAreItsOwn: a source has the calls of its tables as its own.
func TestTheTablesAreItsOwn(t *testing.T) {
	s := opened(t, disk.New(), 2)
	commits(t, s, put(1, 5, "a"), put(1, 7, "b"))
	same(t, "Tables", s.Tables(), s.Set.Tables())
	for i := -1; i < 3; i++ {
		rowsAre(t, "Rows", s.Rows(i), s.Set.Rows(i)...)
		rowsAre(t, "Chunk", s.Chunk(i, 5, 9), s.Set.After(i, 5, 9)...)
		same(t, "Len", s.Len(i), len(s.Rows(i)))
	}
}
