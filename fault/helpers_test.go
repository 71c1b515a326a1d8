package fault

import (
	"fmt"
	"math"
	"slices"
	"testing"

	"qanat/api"
)

// The faults that may be, and some that may not.
var (
	refuse = api.Fault{Kind: api.FaultRefuse}
	lost   = api.Fault{Kind: api.FaultLost}
	nine   = api.Fault{Kind: 9}
)

// tear is a fault that lets so many bytes be written.
func tear(keep int) api.Fault { return api.Fault{Kind: api.FaultTear, Keep: keep} }

// tears is n faults, no two the same, with Keeps from the first one on.
func tears(first, n int) []api.Fault {
	l := make([]api.Fault, n)
	for i := range l {
		l[i] = tear(first + i)
	}
	return l
}

// noKinds is kinds that there are not.
func noKinds() []int {
	return []int{math.MinInt, math.MinInt + 1, -1 << 32, -256, -3, -2, -1, 0, 4, 5, 6, 7, 8, 9, 255, 256, 257, 258, 259, 1<<16 + 1, 1<<32 + 1, 1<<32 + 2, 1<<32 + 3, math.MaxInt - 1, math.MaxInt}
}

// above and below are Keeps of more, and of less, than 0.
func above() []int {
	return []int{1, 2, 255, 256, api.MaxRecord, 1 << 31, 1 << 32, 1 << 40, math.MaxInt - 1, math.MaxInt}
}

func below() []int {
	return []int{-1, -2, -255, -256, -api.MaxRecord, -1 << 31, -1 << 32, -1 << 40, math.MinInt + 1, math.MinInt}
}

// notOnes is faults that may not be.
func notOnes() []api.Fault {
	l := []api.Fault{{}, nine, tear(-1), tear(math.MinInt), {Kind: 4}, {Kind: -1}}
	for _, keep := range []int{1, -1, math.MaxInt, math.MinInt} {
		l = append(l, api.Fault{Kind: api.FaultRefuse, Keep: keep}, api.Fault{Kind: api.FaultLost, Keep: keep}, api.Fault{Keep: keep})
	}
	return l
}

// may holds May of each of l against what it is to be.
func may(t *testing.T, what string, want bool, l ...api.Fault) {
	t.Helper()
	for _, f := range l {
		if got := May(f); got != want {
			t.Errorf("%s: May(%v): got %v, want %v", what, f, got, want)
		}
	}
}

// short is a list as text, cut off where it is long.
func short(v any) string {
	s := fmt.Sprint(v)
	if len(s) > 300 {
		return s[:300] + " .."
	}
	return s
}

// pushes holds Push of l against how many are to be taken.
func pushes(t *testing.T, what string, p *Plan, want int, l ...api.Fault) {
	t.Helper()
	if got := p.Push(l...); got != want {
		t.Errorf("%s: Push(%s): got %d, want %d", what, short(l), got, want)
	}
}

// has holds Len against how many there are to be.
func has(t *testing.T, what string, p *Plan, want int) {
	t.Helper()
	if got := p.Len(); got != want {
		t.Errorf("%s: Len: got %d, want %d", what, got, want)
	}
}

// tells takes out as many as want has, and holds them, and Len behind each, against it.
func tells(t *testing.T, what string, p *Plan, want ...api.Fault) {
	t.Helper()
	had := p.Len()
	for i, f := range want {
		got, ok := p.Next()
		if got != f || !ok {
			t.Fatalf("%s: the Next of place %d: got %v, %v, want %v, true", what, i, got, ok, f)
		}
		has(t, what, p, had-i-1)
	}
}

// empties takes out all, which is to be just want, and asks an empty plan then.
func empties(t *testing.T, what string, p *Plan, want ...api.Fault) {
	t.Helper()
	has(t, what, p, len(want))
	tells(t, what, p, want...)
	for range 2 {
		if got, ok := p.Next(); got != (api.Fault{}) || ok {
			t.Fatalf("%s: the Next of none: got %v, %v, want nothing, false", what, got, ok)
		}
		has(t, what+", none", p, 0)
	}
}

// planOf is a plan of just those faults.
func planOf(t *testing.T, l ...api.Fault) *Plan {
	t.Helper()
	p := New()
	pushes(t, "a new plan", p, len(l), l...)
	return p
}

// plain is P17.1 word by word: a list, from which the first is taken away.
type plain []api.Fault

// mayBe is what May tells, as the chapter says it.
func mayBe(f api.Fault) bool {
	return (f.Kind == 1 || f.Kind == 3) && f.Keep == 0 || f.Kind == 2 && f.Keep >= 0
}

// push is what Push does and tells.
func (p *plain) push(l ...api.Fault) int {
	n := 0
	for _, f := range l {
		if mayBe(f) && len(*p) < 1024 {
			*p = append(slices.Clone(*p), f)
			n++
		}
	}
	return n
}

// next is what Next does and tells.
func (p *plain) next() (api.Fault, bool) {
	if len(*p) == 0 {
		return api.Fault{}, false
	}
	f := (*p)[0]
	*p = slices.Clone((*p)[1:])
	return f, true
}

// choice tells numbers that look like chance, and are the same in each run.
type choice uint64

// below is the next number, from 0 to one less than n.
func (c *choice) below(n int) int {
	*c = *c*6364136223846793005 + 1442695040888963407
	return int(uint64(*c) >> 33 % uint64(n))
}

// fault is a fault; about one of three may not be.
func (c *choice) fault() api.Fault {
	switch c.below(3) {
	case 0:
		l := notOnes()
		return l[c.below(len(l))]
	case 1:
		return tear(c.below(1 << 20))
	}
	return []api.Fault{refuse, lost, tear(0), tear(math.MaxInt)}[c.below(4)]
}

// faults is up to n of them.
func (c *choice) faults(n int) []api.Fault {
	l := make([]api.Fault, c.below(n+1))
	for i := range l {
		l[i] = c.fault()
	}
	return l
}
