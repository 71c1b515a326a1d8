package retry

import (
	"math"
	"testing"

	"qanat/api"
)

// made is a new retry of numbers that may be.
func made(t *testing.T, base, most, jitter int64) *Retry {
	t.Helper()
	r, e := New(base, most, jitter)
	if e != api.OK || r == nil {
		t.Fatalf("New(%d, %d, %d): got %v, %v", base, most, jitter, r, e)
	}
	return r
}

// refuses holds New against a refusal.
func refuses(t *testing.T, what string, base, most, jitter int64) {
	t.Helper()
	if r, e := New(base, most, jitter); r != nil || e != api.ErrArg {
		t.Errorf("%s: New(%d, %d, %d): got %v, %v", what, base, most, jitter, r, e)
	}
}

// tells holds all that r tells against what it is to tell, twice, as asking changes nothing.
func tells(t *testing.T, what string, r *Retry, fails int, until int64) {
	t.Helper()
	for range 2 {
		if r.Fails() != fails || r.Until() != until {
			t.Errorf("%s: got Fails %d, Until %d, want %d, %d", what, r.Fails(), r.Until(), fails, until)
		}
		for _, now := range append(times(), until-2, until-1, until, until+1, until+2) {
			ready(t, what, r, now, now >= until)
		}
	}
}

// ready holds Ready against what it is to be.
func ready(t *testing.T, what string, r *Retry, now int64, want bool) {
	t.Helper()
	if got := r.Ready(now); got != want {
		t.Errorf("%s: Ready(%d), Until %d: got %v, want %v", what, now, r.Until(), got, want)
	}
}

// failing lets r fail, which makes so many fails in a row, and holds what is told against until.
func failing(t *testing.T, what string, r *Retry, now, draw int64, fails int, until int64) {
	t.Helper()
	if got := r.Fail(now, draw); got != until {
		t.Errorf("%s: Fail(%d, %d), number %d in a row: got %d, want %d", what, now, draw, fails, got, until)
	}
	tells(t, what, r, fails, until)
}

// doing lets r be done, and holds what is told against 0.
func doing(t *testing.T, what string, r *Retry) {
	t.Helper()
	r.Done()
	tells(t, what, r, 0, 0)
}

// plain is P20.1 word by word.
type plain struct {
	base, most, jitter int64
	fails              int
	until              int64
}

func plainMay(base, most, jitter int64) bool {
	return 1 <= base && base <= 1<<30 && base <= most && most <= 1<<30 && 0 <= jitter && jitter <= 1<<30
}

// fail is Fail: base is doubled once for each failure, but not any more once it is at most.
func (p *plain) fail(now, draw int64) int64 {
	p.fails++
	if now < 0 {
		now = 0
	}
	if now > 1<<50 {
		now = 1 << 50
	}
	delay := p.base
	for k := 0; k < p.fails && delay < p.most; k++ {
		delay *= 2
	}
	if delay > p.most {
		delay = p.most
	}
	if draw > 0 {
		delay += draw % (p.jitter + 1)
	}
	p.until = now + delay
	return p.until
}

func (p *plain) done() { p.fails, p.until = 0, 0 }

// limits is numbers at 0 and at MaxTicks, beside them, and as far away as there are.
func limits() []int64 {
	return []int64{math.MinInt64, math.MinInt64 + 1, -1 << 32, -api.MaxTicks, -1, 0, 1, 2, api.MaxTicks - 1, api.MaxTicks, api.MaxTicks + 1, 1<<32 + 1, math.MaxInt64 - 1, math.MaxInt64}
}

// times is clocks at 0 and at MaxClock, beside them, and as far away as there are.
func times() []int64 {
	return []int64{math.MinInt64, math.MinInt64 + 1, -api.MaxClock - 1, -api.MaxClock, -1 << 32, -100, -1, 0, 1, 7, 1000, 1 << 30, 1 << 32, 1 << 49, api.MaxClock - 1, api.MaxClock, api.MaxClock + 1, 1 << 51, 1 << 62, math.MaxInt64 - 1, math.MaxInt64}
}

// draws is draws at 0, at jitter and at its double, beside them, and as far away as there are.
func draws(jitter int64) []int64 {
	return []int64{math.MinInt64, math.MinInt64 + 1, -1 << 32, -jitter - 1, -jitter, -2, -1, 0, 1, 2, jitter - 1, jitter, jitter + 1, jitter + 2, 2*jitter + 1, 2*jitter + 2, 1 << 32, 1<<32 + 1, 1 << 62, math.MaxInt64 - 1, math.MaxInt64}
}

// paces is base, most and jitter as they may be.
func paces() [][3]int64 {
	return [][3]int64{
		{5, 100, 0}, {5, 100, 7}, {1, 1, 0}, {1, 1, 1}, {1, 2, 0}, {3, 11, 2}, {3, 12, 2}, {3, 13, 2}, {7, 7, 7}, {7, 8, 100}, {1, 1, api.MaxTicks},
		{1, api.MaxTicks, 0}, {1, api.MaxTicks, api.MaxTicks}, {1, api.MaxTicks - 1, api.MaxTicks - 1}, {3, api.MaxTicks, 1},
		{1 << 29, api.MaxTicks, 0}, {1<<29 + 1, api.MaxTicks, 5}, {api.MaxTicks - 1, api.MaxTicks, 0}, {api.MaxTicks, api.MaxTicks, 0}, {api.MaxTicks, api.MaxTicks, api.MaxTicks},
	}
}

// choice tells numbers that look like chance, and are the same in each run.
type choice uint64

// below is the next number, from 0 to one less than n.
func (c *choice) below(n int) int {
	*c = *c*6364136223846793005 + 1442695040888963407
	return int(uint64(*c) >> 33 % uint64(n))
}

// of is one of those numbers.
func (c *choice) of(l ...int64) int64 { return l[c.below(len(l))] }
