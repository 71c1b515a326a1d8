package backoff

import (
	"math"
	"testing"

	"qanat/api"
)

// may holds May against what it is to be.
func may(t *testing.T, what string, base, most, jitter int64, want bool) {
	t.Helper()
	if got := May(base, most, jitter); got != want {
		t.Errorf("%s: May(%d, %d, %d): got %v, want %v", what, base, most, jitter, got, want)
	}
}

// delays holds Delay against what it is to be.
func delays(t *testing.T, what string, k int, base, most, want int64) {
	t.Helper()
	if got := Delay(k, base, most); got != want {
		t.Errorf("%s: Delay(%d, %d, %d): got %d, want %d", what, k, base, most, got, want)
	}
}

// waits holds Wait against what it is to be.
func waits(t *testing.T, what string, k int, base, most, jitter, draw, want int64) {
	t.Helper()
	if got := Wait(k, base, most, jitter, draw); got != want {
		t.Errorf("%s: Wait(%d, %d, %d, %d, %d): got %d, want %d", what, k, base, most, jitter, draw, got, want)
	}
}

// asPlain holds all calls against the plain ones.
func asPlain(t *testing.T, what string, k int, base, most, jitter, draw int64) {
	t.Helper()
	may(t, what, base, most, jitter, plainMay(base, most, jitter))
	delays(t, what, k, base, most, plainDelay(k, base, most))
	waits(t, what, k, base, most, jitter, draw, plainWait(k, base, most, jitter, draw))
}

// within tells whether n is from least to greatest.
func within(n, least, greatest int64) bool { return least <= n && n <= greatest }

// plainMay is P19.1's May word by word.
func plainMay(base, most, jitter int64) bool {
	return within(base, 1, 1<<30) && within(most, base, 1<<30) && within(jitter, 0, 1<<30)
}

// plainDelay is P19.1's Delay: base is doubled once for each of k, but not any more once it is at most.
func plainDelay(k int, base, most int64) int64 {
	if !plainMay(base, most, 0) {
		return 0
	}
	d := base
	for ; k > 0 && d < most; k-- {
		d *= 2
	}
	if d > most {
		return most
	}
	return d
}

// plainWait is P19.1's Wait word by word.
func plainWait(k int, base, most, jitter, draw int64) int64 {
	switch {
	case !plainMay(base, most, jitter):
		return 0
	case draw < 0:
		return plainDelay(k, base, most)
	}
	return plainDelay(k, base, most) + draw%(jitter+1)
}

// limits is numbers at 0 and at MaxTicks, beside them, and as far away as there are.
func limits() []int64 {
	return []int64{math.MinInt64, math.MinInt64 + 1, -1 << 32, -api.MaxTicks, -1, 0, 1, 2, api.MaxTicks - 1, api.MaxTicks, api.MaxTicks + 1, 1<<32 + 1, math.MaxInt64 - 1, math.MaxInt64}
}

// noTicks is numbers that neither base, most nor jitter may be.
func noTicks() []int64 {
	return []int64{math.MinInt64, math.MinInt64 + 1, -1<<32 + 1, -api.MaxTicks, -5, -1, api.MaxTicks + 1, 1 << 31, 1<<32 + 5, 1 << 62, math.MaxInt64 - 1, math.MaxInt64}
}

// counts is numbers of doublings: each small one, those at which shifts end, and as far away as there are.
func counts() []int {
	l := []int{math.MinInt, math.MinInt + 1, math.MinInt32, -1 << 20, -65, -64, -63, -31, -2, -1}
	for k := range 140 {
		l = append(l, k)
	}
	return append(l, 255, 256, 257, 1000, 1<<16, 1<<20, 1<<30, math.MaxInt32, math.MaxInt-1, math.MaxInt)
}

// bases is numbers that base may be.
func bases() []int64 {
	return []int64{1, 2, 3, 5, 7, 100, 1000, 1 << 15, 1<<15 + 1, 1<<29 - 1, 1 << 29, 1<<29 + 1, api.MaxTicks - 1, api.MaxTicks}
}

// mosts is numbers that most may be with that base.
func mosts(base int64) []int64 {
	var l []int64
	for _, n := range []int64{base, base + 1, 2*base - 1, 2 * base, 2*base + 1, 3 * base, 8*base - 1, 8 * base, 8*base + 1, 1000 * base, 1<<29 - 1, 1 << 29, api.MaxTicks - 1, api.MaxTicks} {
		if within(n, base, api.MaxTicks) {
			l = append(l, n)
		}
	}
	return l
}

// choice tells numbers that look like chance, and are the same in each run.
type choice uint64

// below is the next number, from 0 to one less than n.
func (c *choice) below(n int) int {
	*c = *c*6364136223846793005 + 1442695040888963407
	return int(uint64(*c) >> 33 % uint64(n))
}

// of is one of those numbers.
func (c *choice) of(l ...int64) int64 { return l[c.below(len(l))] }

// sized is a number of so many bits as chance has it, of 40 at most: small ones are as many as great ones.
func (c *choice) sized() int64 {
	return (int64(c.below(1<<20))<<20 | int64(c.below(1<<20))) >> c.below(41)
}
