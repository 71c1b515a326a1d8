package fault

import (
	"fmt"
	"math"
	"slices"
	"testing"

	"qanat/api"
)

func TestExample(t *testing.T) {
	p := New()
	pushes(t, "the example", p, 1, api.Fault{Kind: api.FaultRefuse}, api.Fault{Kind: 9})
	empties(t, "the example", p, refuse)
}

func TestMayOfEachKind(t *testing.T) {
	may(t, "of a kind that there is", true, refuse, lost, tear(0))
	for _, keep := range above() {
		may(t, "a Keep above 0", true, tear(keep))
		may(t, "a Keep above 0", false, api.Fault{Kind: api.FaultRefuse, Keep: keep}, api.Fault{Kind: api.FaultLost, Keep: keep})
	}
	for _, keep := range below() {
		may(t, "a Keep below 0", false, tear(keep))
		may(t, "a Keep below 0", false, api.Fault{Kind: api.FaultRefuse, Keep: keep}, api.Fault{Kind: api.FaultLost, Keep: keep})
	}
}

func TestMayOfNoKind(t *testing.T) {
	for _, kind := range noKinds() {
		may(t, "of no kind", false, api.Fault{Kind: kind})
		for _, keep := range slices.Concat(above(), below()) {
			may(t, "of no kind", false, api.Fault{Kind: kind, Keep: keep})
		}
	}
}

// TestMayOfNeighbours: all small kinds and Keeps, and the numbers of which only the low bits are those.
func TestMayOfNeighbours(t *testing.T) {
	far := []int{0, 1 << 8, 1 << 16, 1 << 31, 1 << 32, 1 << 33, 1 << 62, math.MinInt}
	for kind := -20; kind <= 20; kind++ {
		for keep := -20; keep <= 20; keep++ {
			for _, a := range far {
				for _, b := range far {
					f := api.Fault{Kind: kind ^ a, Keep: keep ^ b}
					may(t, "a neighbour", mayBe(f), f)
				}
			}
		}
	}
}

func TestNextOfNone(t *testing.T) {
	p := New()
	empties(t, "a new plan", p)
	pushes(t, "behind a Next of none", p, 1, lost)
	empties(t, "behind a Next of none", p, lost)
}

func TestPushOfNone(t *testing.T) {
	p := New()
	pushes(t, "none", p, 0)
	pushes(t, "none", p, 0, []api.Fault{}...)
	empties(t, "none", p)
	pushes(t, "one", p, 1, tear(5))
	pushes(t, "none behind one", p, 0)
	empties(t, "none behind one", p, tear(5))
}

func TestPushOfOne(t *testing.T) {
	for _, f := range []api.Fault{refuse, lost, tear(0), tear(1), tear(math.MaxInt)} {
		p := New()
		pushes(t, "one", p, 1, f)
		empties(t, "one", p, f)
		pushes(t, "one more", p, 1, f)
		pushes(t, "the same twice", p, 2, f, f)
		empties(t, "the same three times", p, f, f, f)
	}
	for _, f := range notOnes() {
		p := New()
		pushes(t, "one that may not be", p, 0, f)
		empties(t, "one that may not be", p)
		pushes(t, "two that may", p, 2, lost, refuse)
		pushes(t, "one that may not be", p, 0, f)
		empties(t, "one that may not be", p, lost, refuse)
	}
}

// TestPushOfMany: they stand in their order, in one call and in several.
func TestPushOfMany(t *testing.T) {
	l := []api.Fault{tear(7), refuse, tear(3), lost, lost, tear(0), refuse, tear(math.MaxInt), tear(3), lost}
	for cut := range len(l) + 1 {
		p := New()
		pushes(t, "the first", p, cut, l[:cut]...)
		has(t, "the first", p, cut)
		pushes(t, "the rest", p, len(l)-cut, l[cut:]...)
		empties(t, fmt.Sprint("cut at ", cut), p, l...)
	}
	p := New()
	for i, f := range l {
		pushes(t, "one by one", p, 1, f)
		has(t, "one by one", p, i+1)
	}
	empties(t, "one by one", p, l...)
}

// TestPushOfSomeThatMayNot: they are left out, wherever they stand, and the others are taken.
func TestPushOfSomeThatMayNot(t *testing.T) {
	for _, f := range notOnes() {
		p := New()
		pushes(t, "ahead", p, 2, f, tear(1), tear(2))
		pushes(t, "between", p, 2, tear(3), f, tear(4))
		pushes(t, "behind", p, 2, tear(5), tear(6), f)
		pushes(t, "everywhere", p, 2, f, f, tear(7), f, f, f, tear(8), f)
		pushes(t, "alone", p, 0, f, f, f)
		empties(t, fmt.Sprint("with ", f), p, tears(1, 8)...)
	}
	p := New()
	pushes(t, "all that may not be", p, 0, notOnes()...)
	pushes(t, "all that may not be, and one", p, 1, append(notOnes(), lost)...)
	empties(t, "all that may not be", p, lost)
}

func TestFull(t *testing.T) {
	for _, n := range []int{api.MaxFaults - 1, api.MaxFaults, api.MaxFaults + 1, api.MaxFaults + 2, 2 * api.MaxFaults, 5 * api.MaxFaults} {
		p := New()
		in := min(n, api.MaxFaults)
		pushes(t, fmt.Sprint(n, " in one call"), p, in, tears(0, n)...)
		has(t, "in one call", p, in)
		pushes(t, "three more", p, api.MaxFaults-in, refuse, lost, tear(9))
		has(t, "three more", p, api.MaxFaults)
		want := append(tears(0, n), refuse)[:api.MaxFaults]
		empties(t, "in one call", p, want...)
	}
}

// TestFullInSeveral: the call behind which there are MaxFaults takes the first ones of its list alone.
func TestFullInSeveral(t *testing.T) {
	for _, by := range []int{1, 2, 3, 7, 100, 1000, api.MaxFaults - 1} {
		p := New()
		for n := 0; n < 2*api.MaxFaults; n += by {
			pushes(t, fmt.Sprint("by ", by), p, max(min(by, api.MaxFaults-n), 0), tears(n, by)...)
			has(t, fmt.Sprint("by ", by), p, min(n+by, api.MaxFaults))
		}
		empties(t, fmt.Sprint("by ", by), p, tears(0, api.MaxFaults)...)
	}
}

// TestFullWithSomeThatMayNot: those that may not be take no room.
func TestFullWithSomeThatMayNot(t *testing.T) {
	var l []api.Fault
	for i := range api.MaxFaults + 10 {
		l = append(l, nine, tear(i), tear(-1))
	}
	p := New()
	pushes(t, "in one call", p, api.MaxFaults, l...)
	pushes(t, "of a full plan", p, 0, nine, tear(1), tear(-1))
	pushes(t, "of a full plan", p, 0)
	empties(t, "in one call", p, tears(0, api.MaxFaults)...)

	pushes(t, "one less", p, api.MaxFaults-1, l[:3*(api.MaxFaults-1)]...)
	pushes(t, "some that may not", p, 0, notOnes()...)
	pushes(t, "and one", p, 1, nine, nine, lost, nine, refuse)
	empties(t, "one less, and one", p, append(tears(0, api.MaxFaults-1), lost)...)
}

// TestFullAndOn: each that is taken out of a full plan makes room for one, behind all others.
func TestFullAndOn(t *testing.T) {
	p := planOf(t, tears(0, api.MaxFaults)...)
	for i := range 3 * api.MaxFaults {
		pushes(t, "of a full plan", p, 0, refuse)
		tells(t, "of a full plan", p, tear(i))
		pushes(t, "behind a Next", p, 1, nine, tear(api.MaxFaults+i), refuse)
		has(t, "behind a Next", p, api.MaxFaults)
	}
	tells(t, "five", p, tears(3*api.MaxFaults, 5)...)
	pushes(t, "behind five", p, 5, tears(4*api.MaxFaults, 9)...)
	empties(t, "at the end", p, tears(3*api.MaxFaults+5, api.MaxFaults)...)
	pushes(t, "behind all", p, api.MaxFaults, tears(0, api.MaxFaults+1)...)
	empties(t, "behind all", p, tears(0, api.MaxFaults)...)
}

// TestByTurns: a plan of which so many are pushed, and so many taken out, over and over.
func TestByTurns(t *testing.T) {
	for in := 1; in <= 6; in++ {
		for out := 1; out <= in; out++ {
			p, first, last := New(), 0, 0
			for last < 300 {
				pushes(t, "by turns", p, in, tears(last, in)...)
				last += in
				tells(t, "by turns", p, tears(first, out)...)
				first += out
			}
			empties(t, fmt.Sprint(in, " in, ", out, " out"), p, tears(first, last-first)...)
		}
	}
}

// TestScripts: whatever is done, the plan tells what the list tells.
func TestScripts(t *testing.T) {
	c := choice(17)
	for script := range 60 {
		p, q := New(), plain{}
		for step := range 120 {
			what := fmt.Sprint("script ", script, ", step ", step)
			most := []int{1, 4, 40, 900}[script%4]
			if c.below(2) == 0 {
				l := c.faults(most)
				pushes(t, what, p, q.push(l...), l...)
			}
			for range c.below(most + 1) {
				want, ok := q.next()
				if got, is := p.Next(); got != want || is != ok {
					t.Fatalf("%s: Next: got %v, %v, want %v, %v", what, got, is, want, ok)
				}
			}
			has(t, what, p, len(q))
		}
		empties(t, fmt.Sprint("script ", script), p, q...)
	}
}
