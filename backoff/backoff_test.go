package backoff

import (
	"math"
	"math/big"
	"testing"

	"qanat/api"
)

func TestExample(t *testing.T) {
	delays(t, "the example", 3, 5, 100, 40)
	delays(t, "the example", 1000, 5, 100, 100)
}

func TestMay(t *testing.T) {
	for _, x := range []struct {
		base, most, jitter int64
		want               bool
	}{
		{5, 100, 7, true},
		{1, 1, 0, true}, {0, 1, 0, false}, {-1, 1, 0, false}, {0, 0, 0, false}, {-1, -1, 0, false}, {-5, 5, 0, false},
		{math.MinInt64, 1, 0, false}, {math.MinInt64, math.MinInt64, 0, false}, {math.MaxInt64, math.MaxInt64, 0, false}, {math.MaxInt64, 1, 0, false},
		{5, 4, 0, false}, {5, 5, 0, true}, {5, 6, 0, true}, {2, 1, 0, false}, {5, 0, 0, false}, {5, -5, 0, false},
		{5, math.MinInt64, 0, false}, {5, math.MaxInt64, 0, false},
		{1, api.MaxTicks, 0, true}, {1, api.MaxTicks + 1, 0, false}, {api.MaxTicks, api.MaxTicks, 0, true}, {api.MaxTicks, api.MaxTicks - 1, 0, false},
		{api.MaxTicks, api.MaxTicks + 1, 0, false}, {api.MaxTicks + 1, api.MaxTicks + 1, 0, false}, {api.MaxTicks + 1, api.MaxTicks, 0, false},
		{1, 1, -1, false}, {1, 1, 1, true}, {1, 1, api.MaxTicks, true}, {1, 1, api.MaxTicks + 1, false},
		{1, 1, math.MinInt64, false}, {1, 1, math.MaxInt64, false},
		{api.MaxTicks, api.MaxTicks, api.MaxTicks, true}, {5, 100, 101, true}, {0, 0, -1, false},
		{math.MinInt64, math.MinInt64, math.MinInt64, false}, {math.MaxInt64, math.MaxInt64, math.MaxInt64, false},
		{math.MinInt64, math.MaxInt64, 0, false}, {math.MaxInt64, math.MinInt64, 0, false},
	} {
		may(t, "written out", x.base, x.most, x.jitter, x.want)
	}
}

// TestMayOfLimits goes through each limit with each other one.
func TestMayOfLimits(t *testing.T) {
	allowed := 0
	for _, base := range limits() {
		for _, most := range limits() {
			for _, jitter := range limits() {
				may(t, "limits", base, most, jitter, plainMay(base, most, jitter))
				if May(base, most, jitter) {
					allowed++
				}
			}
		}
	}
	if want := (4 + 3 + 2 + 1) * 5; allowed != want {
		t.Errorf("limits: %d may be, want %d", allowed, want)
	}
}

// TestMayOfOneWrong: one number alone that may not be is enough.
func TestMayOfOneWrong(t *testing.T) {
	for _, base := range bases() {
		for _, most := range mosts(base) {
			for _, jitter := range []int64{0, 1, base, most, api.MaxTicks} {
				may(t, "all right", base, most, jitter, true)
				for _, wrong := range noTicks() {
					may(t, "base", wrong, most, jitter, false)
					may(t, "most", base, wrong, jitter, false)
					may(t, "jitter", base, most, wrong, false)
				}
				may(t, "base of 0", 0, most, jitter, false)
				may(t, "most of 0", base, 0, jitter, false)
				may(t, "base one above most", most+1, most, jitter, false)
				may(t, "most one below base", base, base-1, jitter, false)
			}
		}
	}
}

func TestDelay(t *testing.T) {
	for _, x := range []struct {
		k                int
		base, most, want int64
	}{
		{math.MinInt, 5, 100, 5}, {-64, 5, 100, 5}, {-1, 5, 100, 5}, {0, 5, 100, 5}, {1, 5, 100, 10}, {2, 5, 100, 20},
		{3, 5, 100, 40}, {4, 5, 100, 80}, {5, 5, 100, 100}, {6, 5, 100, 100},
		{4, 5, 79, 79}, {4, 5, 80, 80}, {4, 5, 81, 80}, {5, 5, 80, 80},
		{40, 5, 100, 100}, {62, 5, 100, 100}, {63, 5, 100, 100}, {64, 5, 100, 100}, {65, 5, 100, 100}, {128, 5, 100, 100}, {math.MaxInt, 5, 100, 100},
		{29, 1, api.MaxTicks, 1 << 29}, {30, 1, api.MaxTicks, 1 << 30}, {31, 1, api.MaxTicks, 1 << 30}, {30, 1, api.MaxTicks - 1, 1<<30 - 1}, {63, 1, api.MaxTicks, 1 << 30},
		{29, 3, api.MaxTicks, api.MaxTicks}, {28, 3, api.MaxTicks, 3 << 28}, {34, 1 << 29, api.MaxTicks, api.MaxTicks},
		{math.MinInt, 7, 7, 7}, {0, 7, 7, 7}, {1, 7, 7, 7}, {64, 7, 7, 7}, {math.MaxInt, 7, 7, 7},
		{-1, api.MaxTicks, api.MaxTicks, api.MaxTicks}, {0, api.MaxTicks, api.MaxTicks, api.MaxTicks}, {1, api.MaxTicks, api.MaxTicks, api.MaxTicks},
		{33, api.MaxTicks, api.MaxTicks, api.MaxTicks}, {34, api.MaxTicks, api.MaxTicks, api.MaxTicks}, {math.MaxInt, api.MaxTicks, api.MaxTicks, api.MaxTicks},
	} {
		delays(t, "written out", x.k, x.base, x.most, x.want)
	}
}

// TestDelayOfWhatMayNotBe: it is 0, however often it would be doubled.
func TestDelayOfWhatMayNotBe(t *testing.T) {
	for _, base := range limits() {
		for _, most := range limits() {
			if plainMay(base, most, 0) {
				continue
			}
			for _, k := range counts() {
				delays(t, "may not be", k, base, most, 0)
			}
		}
	}
	for _, k := range counts() {
		delays(t, "most one below base", k, 5, 4, 0)
		delays(t, "base of 0", k, 0, 100, 0)
	}
}

// TestDelayAsWritten holds Delay against base times 2^k, in numbers that have no end.
func TestDelayAsWritten(t *testing.T) {
	for _, base := range bases() {
		for _, most := range mosts(base) {
			for _, k := range counts() {
				want := most
				if k <= 2000 {
					power := new(big.Int).Lsh(big.NewInt(base), uint(max(k, 0)))
					if power.Cmp(big.NewInt(most)) < 0 {
						want = power.Int64()
					}
				}
				delays(t, "as written", k, base, most, want)
			}
		}
	}
}

// TestDelayAroundMost: just at most, one beside it, and the doublings around the one that comes there.
func TestDelayAroundMost(t *testing.T) {
	for _, base := range bases() {
		for k := 0; base<<k+1 <= api.MaxTicks; k++ {
			at := base << k
			delays(t, "just at most", k, base, at, at)
			delays(t, "one below most", k, base, at+1, at)
			delays(t, "one more doubling, just at most", k+1, base, at, at)
			delays(t, "one more doubling, one below most", k+1, base, at+1, min(2*at, at+1))
			if k > 0 {
				delays(t, "one above most", k, base, at-1, at-1)
				delays(t, "one doubling less", k-1, base, at, at/2)
				delays(t, "one doubling less, one above most", k-1, base, at-1, min(at/2, at-1))
			}
			for more := k; more < 200; more++ {
				delays(t, "more doublings", more, base, at, at)
			}
		}
	}
}

// TestDelayOfFewTicks goes through all small numbers.
func TestDelayOfFewTicks(t *testing.T) {
	for base := int64(-3); base <= 20; base++ {
		for most := int64(-3); most <= 70; most++ {
			for k := -3; k <= 70; k++ {
				delays(t, "few ticks", k, base, most, plainDelay(k, base, most))
			}
		}
	}
}

// TestGreaterNeverLess: a greater k never waits less, but for the draw; and it waits from base to most, and the jitter.
func TestGreaterNeverLess(t *testing.T) {
	for _, base := range bases() {
		for _, most := range mosts(base) {
			lastDelay, lastWait := base, base+3
			for _, k := range counts() {
				d, w := Delay(k, base, most), Wait(k, base, most, 6, 10)
				if d < lastDelay || w < lastWait {
					t.Errorf("k %d, base %d, most %d: got %d, %d, and %d, %d of a lesser k", k, base, most, d, w, lastDelay, lastWait)
				}
				if !within(d, base, most) || w != d+3 {
					t.Errorf("k %d, base %d, most %d: got %d, %d", k, base, most, d, w)
				}
				lastDelay, lastWait = d, w
			}
			if lastDelay != most {
				t.Errorf("base %d, most %d: got %d of the greatest k", base, most, lastDelay)
			}
		}
	}
}
