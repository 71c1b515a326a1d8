package backoff

import (
	"math"
	"testing"

	"qanat/api"
)

func TestWait(t *testing.T) {
	const many = api.MaxTicks + 1
	for _, x := range []struct{ jitter, draw, want int64 }{
		{0, math.MinInt64, 20}, {0, -1, 20}, {0, 0, 20}, {0, 1, 20}, {0, 9, 20}, {0, math.MaxInt64, 20},
		{1, 0, 20}, {1, 1, 21}, {1, 2, 20}, {1, 3, 21}, {1, -1, 20}, {1, math.MaxInt64, 21}, {1, math.MinInt64, 20},
		{3, 0, 20}, {3, 2, 22}, {3, 3, 23}, {3, 4, 20}, {3, 5, 21}, {3, 4000, 20}, {3, 4003, 23}, {3, math.MaxInt64, 23},
		{3, -1, 20}, {3, -2, 20}, {3, -3, 20}, {3, -4, 20}, {3, -5, 20}, {3, math.MinInt64, 20}, {3, math.MinInt64 + 1, 20},
		{6, 3000, 24}, {6, math.MaxInt64, 20}, {6, math.MaxInt64 - 1, 26}, // 2^63 - 1 is a multiple of 7
		{api.MaxTicks, 0, 20}, {api.MaxTicks, api.MaxTicks - 1, 19 + api.MaxTicks}, {api.MaxTicks, api.MaxTicks, 20 + api.MaxTicks},
		{api.MaxTicks, many, 20}, {api.MaxTicks, many + 1, 21}, {api.MaxTicks, 1000*many + 7, 27}, {api.MaxTicks, -1, 20}, {api.MaxTicks, math.MinInt64, 20},
		{api.MaxTicks - 1, api.MaxTicks, 20}, {api.MaxTicks - 1, math.MaxInt64, 20 + api.MaxTicks - 1}, // 2^30 goes into 2^63
	} {
		waits(t, "written out", 2, 5, 100, x.jitter, x.draw, x.want)
	}
}

// TestWaitOfAllDraws: each draw from 0 to the jitter waits so much longer, and what is above begins anew.
func TestWaitOfAllDraws(t *testing.T) {
	for jitter := range int64(40) {
		draw := int64(0)
		for range 5 {
			for more := range jitter + 1 {
				waits(t, "all draws", 1, 5, 100, jitter, draw, 10+more)
				waits(t, "all draws, at most", 60, 5, 100, jitter, draw, 100+more)
				waits(t, "all draws below 0", 1, 5, 100, jitter, -1-draw, 10)
				draw++
			}
		}
	}
}

// TestWaitAboveMost: most holds the Delay alone, not what the draw makes of the jitter.
func TestWaitAboveMost(t *testing.T) {
	waits(t, "the jitter above most", 50, 5, 7, 90, 90, 97)
	waits(t, "base is most", 0, 7, 7, 90, 90, 97)
	waits(t, "all of it", math.MaxInt, api.MaxTicks, api.MaxTicks, api.MaxTicks, api.MaxTicks, 2*api.MaxTicks)
	waits(t, "all but one", 30, 1, api.MaxTicks, api.MaxTicks-1, math.MaxInt64, 2*api.MaxTicks-1)
}

// TestWaitOfWhatMayNotBe: it is 0, also where there is a Delay, and where only the jitter may not be.
func TestWaitOfWhatMayNotBe(t *testing.T) {
	for _, k := range []int{math.MinInt, -1, 0, 1, 5, 31, 64, math.MaxInt} {
		for _, draw := range []int64{math.MinInt64, -1, 0, 1, 9, math.MaxInt64} {
			for _, jitter := range noTicks() {
				waits(t, "the jitter alone", k, 5, 100, jitter, draw, 0)
			}
			for _, wrong := range noTicks() {
				waits(t, "base alone", k, wrong, 100, 7, draw, 0)
				waits(t, "most alone", k, 5, wrong, 7, draw, 0)
				waits(t, "base alone, no jitter", k, wrong, 100, 0, draw, 0)
			}
			waits(t, "base of 0", k, 0, 100, 7, draw, 0)
			waits(t, "most one below base", k, 5, 4, 7, draw, 0)
			waits(t, "base one above MaxTicks", k, api.MaxTicks+1, api.MaxTicks+1, 7, draw, 0)
		}
	}
}

// TestOfLimits goes through each limit with each other one.
func TestOfLimits(t *testing.T) {
	for _, base := range limits() {
		for _, most := range limits() {
			for _, jitter := range limits() {
				for _, draw := range limits() {
					for _, k := range []int{math.MinInt, -1, 0, 1, 29, 30, 31, 62, 63, 64, 65, math.MaxInt} {
						asPlain(t, "limits", k, base, most, jitter, draw)
					}
				}
			}
		}
	}
}

// TestOfAnyNumbers holds all calls against the plain ones, of numbers many of which may be, and many not.
func TestOfAnyNumbers(t *testing.T) {
	c := choice(1)
	for range 200000 {
		base := c.sized()
		most := c.of(base-1, base, base+1, base+c.sized(), base<<c.below(40), api.MaxTicks, c.sized())
		jitter := c.of(-1, 0, c.sized(), c.sized()>>10, api.MaxTicks)
		draw := c.of(-c.sized(), c.sized(), jitter, jitter+1, 1000*jitter+c.sized(), math.MaxInt64-c.sized(), math.MinInt64)
		asPlain(t, "any numbers", c.below(80)-5, base, most, jitter, draw)
	}
}
