package sink

import (
	"fmt"
	"testing"

	"qanat/api"
	"qanat/disk"
)

// kinds is a fault of each kind, with some Keeps.
func kinds() []api.Fault {
	return []api.Fault{refuse, tear(0), tear(1), tear(40), tear(1 << 40), lost}
}

// file is which of its files a log goes on in behind n of some, and how many bytes that has, if it does not begin then.
func file(t *testing.T, n, segment int) (f, had int) {
	t.Helper()
	if segment == size || n == 0 {
		return api.SinkBase + n, 0
	}
	return api.SinkBase, len(part(1, laidAll(t, some()[:n]...)...))
}

// bytesOf is what Commit of item n of some writes behind those ahead of it.
func bytesOf(t *testing.T, n, segment int) string {
	t.Helper()
	if _, had := file(t, n, segment); had > 0 {
		return record(laid(t, some()[n]))
	}
	return part(int64(n)+1, laid(t, some()[n]))
}

// cleans is the operation that takes away what a tear left.
func cleans(f, had int) operation {
	if had == 0 {
		return removes(f)
	}
	return cuts(f, had)
}

// behindWith is behindSome with so many faults.
func behindWith(n, faults int) string {
	c := behindSome(n)
	c.faults = faults
	return tells(c)
}

// everywhere does a thing for each place in a log, of one file and of one an item.
func everywhere(do func(what string, n, segment int)) {
	for n := range some() {
		do(fmt.Sprintf("item %d, one file", n), n, 65536)
		do(fmt.Sprintf("item %d, one a file", n), n, size)
	}
}

// TestRefused: ErrFault, and nothing.
func TestRefused(t *testing.T) {
	everywhere(func(what string, n, segment int) {
		before := stand(t, n, segment, refuse, refuse)
		does(t, what, before, some()[n], api.ErrFault, behindWith(n, 1))
		k, d := before()
		answers(t, what, k, d, some()[n], api.ErrFault, 1)
		answers(t, what+", again", k, d, some()[n], api.ErrFault, 1)
		same(t, what+", without a fault", k.Commit(some()[n]), api.OK)
		same(t, what+", behind it", told(k), tells(behindSome(n+1)))
	})
}

// TestTorn: so many bytes are written as Keep names, modulo how many there are.
func TestTorn(t *testing.T) {
	everywhere(func(what string, n, segment int) {
		all := bytesOf(t, n, segment)
		f, had := file(t, n, segment)
		for _, keep := range []int{0, 1, 7, 8, 9, 18, 19, 20, len(all) - 1, len(all), len(all) + 1, 2*len(all) - 1, 2 * len(all), 1<<40 + 3, 1<<63 - 1} {
			left := all[:keep%len(all)]
			at := fmt.Sprintf("%s, keep %d", what, keep)
			does(t, at, stand(t, n, segment, tear(keep), refuse), some()[n], api.ErrFault, behindWith(n, 1), lays(f, left))

			torn := func(more ...api.Fault) func() (*Sink, *disk.Disk) {
				return func() (*Sink, *disk.Disk) {
					k, d := stand(t, n, segment, append([]api.Fault{tear(keep)}, more...)...)()
					same(t, at+": torn", k.Commit(some()[n]), api.ErrFault)
					return k, d
				}
			}
			clean := cleans(f, had)
			does(t, at+", then without a fault", torn(), some()[n], api.OK, tells(behindSome(n+1)), clean, lays(f, all), syncs(f))
			does(t, at+", then lost", torn(lost), some()[n], api.ErrFault, tells(behindSome(n+1)), clean, lays(f, all), syncs(f))
			does(t, at+", then torn again", torn(tear(5), lost), some()[n], api.ErrFault, behindWith(n, 1), clean, lays(f, all[:5]))
			does(t, at+", then refused", torn(refuse, lost), some()[n], api.ErrFault, behindWith(n, 1))
			if n > 0 {
				does(t, at+", then what is old", torn(), some()[n-1], api.OK, tells(behindSome(n)))
			}
		}
	})
}

// TestTornAndOpened: what was torn is nothing, whatever is left of it.
func TestTornAndOpened(t *testing.T) {
	everywhere(func(what string, n, segment int) {
		all := bytesOf(t, n, segment)
		for keep := range len(all) {
			k, d := stand(t, n, segment, tear(keep))()
			same(t, what+": torn", k.Commit(some()[n]), api.ErrFault)
			same(t, what+": the sink", told(k), tells(behindSome(n)))
			if keep%2 == 0 {
				crashes(d, keep)
			}
			again, e := Open(d, 2, segment)
			if e != api.OK {
				t.Fatalf("%s, keep %d: opened anew: got %d", what, keep, e)
			}
			same(t, what+": opened anew", told(again), tells(behindSome(n)))
			commits(t, again, some()[n:]...)
			same(t, what+": the rest", told(again), tells(behindSome(3)))
		}
	})
}

// TestLost: all is done, and ErrFault is answered.
func TestLost(t *testing.T) {
	everywhere(func(what string, n, segment int) {
		f, _ := file(t, n, segment)
		before := stand(t, n, segment, lost, refuse)
		does(t, what, before, some()[n], api.ErrFault, behindWith(n+1, 1), lays(f, bytesOf(t, n, segment)), syncs(f))
		k, d := before()
		same(t, what, k.Commit(some()[n]), api.ErrFault)
		answers(t, what+", again, refused", k, d, some()[n], api.ErrFault, 1)
		answers(t, what+", again", k, d, some()[n], api.OK, 0)
		again, e := Open(d, 2, segment)
		same(t, what+", opened anew", fmt.Sprint(e), "0")
		same(t, what+", opened anew", told(again), tells(behindSome(n+1)))
	})
}

// TestFaultsOfOld: of what has an Lsn that is not above Lsn nothing is written, but a fault is a fault.
func TestFaultsOfOld(t *testing.T) {
	for _, f := range kinds() {
		for _, lsn := range []int64{9, 8, 4, 3, 1} {
			for _, x := range []api.Item{item(lsn, nil), item(lsn, ops(put(lsn, 1, 1, "z")), chunk(3, 9, true)), item(lsn, ops(put(1, 7, 1, "z")), chunk(64, 9, true))} {
				k, d := filled(t, some(), f, refuse)
				d.Arm(1) // power does not go, where no operation is done
				answers(t, fmt.Sprint("fault ", f), k, d, x, api.ErrFault, 1)
				answers(t, fmt.Sprint("behind fault ", f), k, d, x, api.ErrFault, 1)
				answers(t, fmt.Sprint("behind both, fault ", f), k, d, x, api.OK, 0)
			}
		}
	}
}

// TestFaultsOfTheFirstItem: of a new sink none is old.
func TestFaultsOfTheFirstItem(t *testing.T) {
	for _, lsn := range []int64{1, 2, api.MaxLsn} {
		k, d := filled(t, nil, refuse, tear(3), lost)
		answers(t, "refused", k, d, item(lsn, nil), api.ErrFault, 1)
		same(t, "torn", k.Commit(item(lsn, nil)), api.ErrFault)
		same(t, "torn: what is there", fmt.Sprint(k.Lsn(), k.Batches(), d.Len(api.SinkBase), d.Synced(api.SinkBase)), "0 0 3 0")
		same(t, "lost", k.Commit(item(lsn, nil)), api.ErrFault)
		same(t, "lost: what is there", fmt.Sprint(k.Lsn(), k.Batches(), k.Plan().Len()), fmt.Sprint(lsn, 1, 0))
		answers(t, "told again", k, d, item(lsn, nil), api.OK, 0)
	}
}

// TestFaultsOfAFullLog: ErrFull, where something would be written; the fault is used up all the same.
func TestFaultsOfAFullLog(t *testing.T) {
	files, numbers := fullOf(t, some()...), diskOf(part(api.MaxLsn))
	full := opened(t, numbers, 2)
	commits(t, full, puts(9))
	for what, c := range map[string]struct {
		k *Sink
		d *disk.Disk
	}{"no file more": {opened(t, files, 2), files}, "no number more": {full, numbers}} {
		k, d := c.k, c.d
		for _, f := range kinds() {
			at := fmt.Sprint(what, ", fault ", f)
			want := api.ErrFull
			if f == refuse {
				want = api.ErrFault
			}
			plans(t, k, f, f, f, refuse)
			answers(t, at, k, d, puts(10), want, 1)
			d.Arm(1)
			answers(t, at+", armed", k, d, puts(api.MaxLsn), want, 1)
			d.Arm(0)
			answers(t, at+", of old", k, d, puts(9), api.ErrFault, 1)
			refuses(t, at+", of what may not be", k, d, item(10, ops(put(10, 2, 1, "a"))))
			answers(t, at+", refused behind it", k, d, puts(10), api.ErrFault, 1)
			answers(t, at+", none behind it", k, d, puts(10), api.ErrFull, 0)
		}
		plans(t, k, kinds()...)
		powerGoes(d)
		answers(t, what+", power off", k, d, puts(10), api.ErrDown, 0)
	}
}

// TestFaultsWithPowerOff: none is used up.
func TestFaultsWithPowerOff(t *testing.T) {
	for _, f := range kinds() {
		k, d := filled(t, some(), f)
		powerGoes(d)
		for _, x := range []api.Item{item(10, nil), item(9, nil), item(1, nil)} {
			answers(t, fmt.Sprint("fault ", f), k, d, x, api.ErrDown, 0)
		}
	}
}

// TestFaultsInARow: first planned, first done, one for each Commit that is not refused.
func TestFaultsInARow(t *testing.T) {
	k, d := filled(t, nil, lost, refuse, tear(9), tear(0), refuse, lost)
	same(t, "lost", k.Commit(some()[0]), api.ErrFault)
	same(t, "it is there", told(k), behindWith(1, 5))
	refuses(t, "what may not be", k, d, item(0, nil))
	refuses(t, "what does not fit", k, d, item(4, nil, chunk(9, 9, false)))
	answers(t, "refused", k, d, some()[1], api.ErrFault, 1)
	at := d.Ops()
	same(t, "torn", k.Commit(some()[1]), api.ErrFault)
	same(t, "one operation", fmt.Sprint(d.Ops()-at, d.Len(api.SinkBase+1)), "1 9")
	same(t, "torn again", k.Commit(some()[1]), api.ErrFault)
	same(t, "two more", fmt.Sprint(d.Ops()-at, d.Len(api.SinkBase+1)), "3 0")
	same(t, "nothing is there", told(k), behindWith(1, 2))
	answers(t, "refused, behind a torn one", k, d, some()[1], api.ErrFault, 1)
	same(t, "lost, behind a torn one", k.Commit(some()[1]), api.ErrFault)
	same(t, "three more", d.Ops()-at, 6)
	same(t, "it is there", told(k), behindWith(2, 0))
	answers(t, "told again", k, d, some()[1], api.OK, 0)
	same(t, "the next one", k.Commit(some()[2]), api.OK)
	same(t, "all", told(k), tells(behindSome(3)))
	found(t, "opened anew", d, 2, tells(behindSome(3)))
}

// TestPlanIsItsOwn: it is the same plan each time, and who puts faults into it later puts them into the sink.
func TestPlanIsItsOwn(t *testing.T) {
	k, _ := filled(t, nil)
	p := k.Plan()
	same(t, "a new one", p.Len(), 0)
	same(t, "the same one", k.Plan() == p, true)
	p.Push(refuse, refuse)
	same(t, "refused", k.Commit(some()[0]), api.ErrFault)
	same(t, "used up", p.Len(), 1)
	p.Next()
	same(t, "taken out", k.Commit(some()[0]), api.OK)
	same(t, "the same one behind it", k.Plan() == p, true)
	for range api.MaxFaults {
		p.Push(refuse)
	}
	same(t, "full", p.Push(refuse), 0)
	same(t, "refused", k.Commit(some()[1]), api.ErrFault)
	same(t, "room for one", p.Push(lost, lost), 1)
}
