package sink

import (
	"fmt"
	"slices"
	"testing"

	"qanat/api"
	"qanat/disk"
)

// spoil writes into all of l, and into the room behind its end.
func spoil[T any](l []T, with T) {
	l = l[:cap(l)]
	for i := range l {
		l[i] = with
	}
}

// roomy is l with room behind its end, in which something stands.
func roomy[T any](l []T, more ...T) []T {
	return append(slices.Clone(l), more...)[:len(l)]
}

// The values that are written over others.
var (
	spoiltOp   = put(1, 0, 77, "spoilt")
	spoiltNote = chunk(1, 77, true)
)

// withRoom is x with room behind the ends of its lists.
func withRoom(x api.Item) api.Item {
	return item(x.Lsn, roomy(x.Ops, put(x.Lsn, 0, 88, "room"), put(99, 9, 0, "room")), roomy(x.Notes, accept(9, 0, 1, 1), api.Note{Kind: 9})...)
}

// whole is an item as it is told, with the room behind its ends.
func whole(x api.Item) string {
	return fmt.Sprint(x.Lsn, x.Ops[:cap(x.Ops)], x.Notes[:cap(x.Notes)])
}

// TestWhatIsHandedInStays: an item, with the room behind its ends, is as it was, and is not kept.
func TestWhatIsHandedInStays(t *testing.T) {
	for what, faults := range map[string][]api.Fault{"no faults": nil, "each refused": {refuse, refuse, refuse}, "each torn": {tear(30), tear(0), tear(99)}, "each lost": {lost, lost, lost}} {
		k, d := filled(t, nil, faults...)
		for _, x := range slices.Concat(some(), some(), []api.Item{item(0, some()[0].Ops), item(99, some()[0].Ops, some()[0].Notes...), item(99, ops(put(5, 2, 1, "a"), put(5, 0, 1, "a")))}) {
			x = withRoom(x)
			was := whole(x)
			k.Commit(x)
			same(t, what+": the item", whole(x), was)
			is, stood := told(k), state(d)
			spoil(x.Ops, spoiltOp)
			spoil(x.Notes, spoiltNote)
			same(t, what+": the sink", told(k), is)
			same(t, what+": the disk", state(d), stood)
		}
		same(t, what+": opened anew", tablesOf(opened(t, d, 2)), tablesOf(k))
		powerGoes(d)
		x := withRoom(item(99, some()[0].Ops))
		was := whole(x)
		k.Commit(x)
		same(t, what+": power off", whole(x), was)
	}
	k, d := filled(t, nil)
	for _, x := range some() {
		commits(t, k, withRoom(x))
	}
	same(t, "the room plays no part", told(k), tells(behindSome(3)))
	found(t, "the room plays no part", d, 2, tells(behindSome(3)))
}

// TestWhatIsHandedOutIsNew: who writes into it changes nothing else.
func TestWhatIsHandedOutIsNew(t *testing.T) {
	first, d := filled(t, some())
	for what, k := range map[string]*Sink{"it": first, "opened anew": opened(t, d, 2)} {
		was, stood := told(k), state(d)
		rows, cells, reqs := k.Rows(1), k.Cells(1), k.Reqs()
		for i := -1; i <= 2; i++ {
			spoil(k.Rows(i), api.Row{Key: 77, Val: "spoilt"})
			spoil(k.Cells(i), api.Cell{Key: 77, Lsn: 77, Gone: true})
			spoil(append(k.Rows(i), api.Row{Key: 1}), api.Row{Key: 78})
			spoil(append(k.Cells(i), api.Cell{Key: 1}), api.Cell{Key: 78})
		}
		spoil(k.Reqs(), api.Req{ID: 77, Done: true})
		spoil(append(k.Reqs(), api.Req{ID: 4}), api.Req{ID: 78})
		same(t, what+": the sink", told(k), was)
		same(t, what+": the disk", state(d), stood)
		same(t, what+": elder rows", rowsOf(rows), rowsOf(k.Rows(1)))
		same(t, what+": elder cells", cellsOf(cells), cellsOf(k.Cells(1)))
		same(t, what+": elder requests", reqsOf(reqs), reqsOf(k.Reqs()))
	}
	rows, cells, reqs := first.Rows(1), first.Cells(1), first.Reqs()
	was := rowsOf(rows) + cellsOf(cells) + reqsOf(reqs)
	commits(t, first, item(30, ops(put(30, 1, 6, "z"), gone(30, 1, 1), put(30, 1, 2, "y")), chunk(3, 99, true), accept(4, 1, 1, 30)))
	same(t, "what was handed out ahead", rowsOf(rows)+cellsOf(cells)+reqsOf(reqs), was)
}

// TestSinksAreApart: what is done with one changes nothing of another one, also of one of the same bytes.
func TestSinksAreApart(t *testing.T) {
	one, a := filled(t, some()[:1], refuse)
	two, b := filled(t, some()[:1], refuse)
	was, stood := told(two), state(b)
	one.Commit(some()[1])
	commits(t, one, some()[1:]...)
	plans(t, one, lost, tear(3))
	one.Commit(item(10, nil))
	powerGoes(a)
	one.Commit(item(11, nil))
	same(t, "the other", told(two), was)
	same(t, "its disk", state(b), stood)
	same(t, "refused", two.Commit(some()[1]), api.ErrFault)
	commits(t, two, some()[1:]...)
	same(t, "the other, behind some", told(two), tells(behindSome(3)))
}

// TestOpenKeepsTheDisk: the sink goes on with the disk that it was given, whoever else writes there.
func TestOpenKeepsTheDisk(t *testing.T) {
	d := disk.New()
	k := opened(t, d, 2)
	commits(t, k, some()[0])
	lay(d, 3, "another file")
	commits(t, k, some()[1])
	d.Sync(3)
	commits(t, k, some()[2])
	found(t, "opened anew", d, 2, tells(behindSome(3)))
	b, _ := d.Read(3)
	same(t, "the other file", string(b), "another file")
}

// TestTheReplicaIsItsOwn: a sink has the calls of its replica as its own.
func TestTheReplicaIsItsOwn(t *testing.T) {
	k, _ := filled(t, some())
	same(t, "Tables", k.Tables(), k.Replica.Tables())
	for i := -1; i < 3; i++ {
		same(t, "Rows", rowsOf(k.Rows(i)), rowsOf(k.Replica.Rows(i)))
		same(t, "Cells", cellsOf(k.Cells(i)), cellsOf(k.Replica.Cells(i)))
	}
}
