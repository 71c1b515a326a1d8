package fault

import (
	"slices"
	"testing"

	"qanat/api"
)

// roomy is faults with room behind their end, in which others stand.
func roomy() []api.Fault {
	return []api.Fault{tear(1), nine, lost, tear(-1), tear(2), refuse, lost, tear(99), nine}[:5]
}

// spoil writes into all of l, and into the room behind its end.
func spoil(l []api.Fault) {
	l = l[:cap(l)]
	for i := range l {
		l[i] = api.Fault{Kind: -9, Keep: -9}
	}
}

// TestHandedInStays: Push writes neither into what it is handed, nor behind its end, and nor does what comes after it.
func TestHandedInStays(t *testing.T) {
	l := roomy()
	was := slices.Clone(l[:cap(l)])
	p := New()
	pushes(t, "the room behind the end plays no part", p, 3, l...)
	pushes(t, "more", p, 3, tear(3), nine, tear(4), tear(5))
	tells(t, "two", p, tear(1), lost)
	pushes(t, "the same list again", p, 3, l...)
	pushes(t, "until it is full", p, api.MaxFaults-7, tears(0, api.MaxFaults)...)
	for p.Len() > 0 {
		p.Next()
	}
	pushes(t, "of an empty plan", p, 3, l...)
	if !slices.Equal(l[:cap(l)], was) {
		t.Errorf("handed in: got %v, want %v", l[:cap(l)], was)
	}
}

// TestHandedInIsNotKept: who writes into a list that was pushed changes nothing of the plan.
func TestHandedInIsNotKept(t *testing.T) {
	p := New()
	for range 3 {
		l := roomy()
		pushes(t, "a list", p, 3, l...)
		spoil(l)
	}
	more := []api.Fault{lost, tear(8)}
	pushes(t, "a list without room", p, 2, more...)
	spoil(more)
	empties(t, "all spoilt", p, tear(1), lost, tear(2), tear(1), lost, tear(2), tear(1), lost, tear(2), lost, tear(8))

	full := tears(0, api.MaxFaults)
	pushes(t, "a full list", p, api.MaxFaults, full...)
	spoil(full)
	empties(t, "a full list", p, tears(0, api.MaxFaults)...)
}

// TestPlansApart: what is done with one plan changes nothing of another.
func TestPlansApart(t *testing.T) {
	l := roomy()
	p, q := planOf(t, tear(1)), New()
	empties(t, "a plan beside it", q)
	pushes(t, "both", p, 3, l...)
	pushes(t, "both", q, 3, l...)
	tells(t, "one", p, tear(1), tear(1), lost)
	pushes(t, "one", p, 2, refuse, tear(7))
	has(t, "the other", q, 3)
	pushes(t, "the other, until it is full", q, api.MaxFaults-3, tears(10, api.MaxFaults)...)
	has(t, "one", p, 3)
	empties(t, "one", p, tear(2), refuse, tear(7))
	empties(t, "the other", q, append([]api.Fault{tear(1), lost, tear(2)}, tears(10, api.MaxFaults-3)...)...)
}

// TestHandedOutIsNew: who writes into a fault that was told changes nothing of the plan.
func TestHandedOutIsNew(t *testing.T) {
	p := planOf(t, tear(1), tear(2))
	f, _ := p.Next()
	f.Kind, f.Keep = -9, -9
	pushes(t, "behind it", p, 1, lost)
	empties(t, "behind it", p, tear(2), lost)
}
