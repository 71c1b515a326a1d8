package retry

import (
	"fmt"
	"math"
	"testing"

	"qanat/api"
	"qanat/backoff"
)

func TestExample(t *testing.T) {
	r := made(t, 5, 100, 0)
	failing(t, "the example", r, 7, 0, 1, 17)
	failing(t, "the example", r, 17, 0, 2, 37)
}

func TestNew(t *testing.T) {
	for _, x := range [][3]int64{{5, 100, 7}, {1, 1, 0}, {5, 5, 0}, {5, 6, 0}, {1, api.MaxTicks, 0}, {api.MaxTicks, api.MaxTicks, 0}, {1, 1, api.MaxTicks}, {api.MaxTicks, api.MaxTicks, api.MaxTicks}, {5, 100, 101}} {
		tells(t, fmt.Sprint("new, of ", x), made(t, x[0], x[1], x[2]), 0, 0)
	}
	for _, x := range [][3]int64{
		{0, 1, 0}, {-1, 1, 0}, {0, 0, 0}, {-1, -1, 0}, {5, 4, 0}, {2, 1, 0}, {5, 0, 0}, {5, -5, 0}, {1, 1, -1}, {0, 0, -1},
		{1, api.MaxTicks + 1, 0}, {api.MaxTicks + 1, api.MaxTicks + 1, 0}, {api.MaxTicks + 1, api.MaxTicks, 0}, {api.MaxTicks, api.MaxTicks - 1, 0}, {1, 1, api.MaxTicks + 1},
		{math.MinInt64, 1, 0}, {math.MaxInt64, 1, 0}, {5, math.MinInt64, 0}, {5, math.MaxInt64, 0}, {5, 100, math.MinInt64}, {5, 100, math.MaxInt64},
		{math.MinInt64, math.MinInt64, math.MinInt64}, {math.MaxInt64, math.MaxInt64, math.MaxInt64},
	} {
		refuses(t, "may not be", x[0], x[1], x[2])
	}
}

// TestNewOfLimits goes through each limit with each other one, in which New and backoff.May are of one mind.
func TestNewOfLimits(t *testing.T) {
	allowed := 0
	for _, base := range limits() {
		for _, most := range limits() {
			for _, jitter := range limits() {
				may := plainMay(base, most, jitter)
				if may != backoff.May(base, most, jitter) {
					t.Errorf("backoff.May(%d, %d, %d): want %v", base, most, jitter, may)
				}
				if !may {
					refuses(t, "limits", base, most, jitter)
					continue
				}
				allowed++
				tells(t, "limits", made(t, base, most, jitter), 0, 0)
			}
		}
	}
	if want := (4 + 3 + 2 + 1) * 5; allowed != want {
		t.Errorf("limits: %d may be, want %d", allowed, want)
	}
}

// TestFail writes out what comes of a few failures in a row.
func TestFail(t *testing.T) {
	for _, x := range []struct {
		what               string
		base, most, jitter int64
		fails              [][3]int64 // now, draw, and until when
	}{
		{"doubled until it is at most", 5, 100, 0, [][3]int64{{0, 0, 10}, {0, 0, 20}, {0, 0, 40}, {0, 0, 80}, {0, 0, 100}, {0, 0, 100}, {0, 0, 100}}},
		{"just at most", 5, 40, 0, [][3]int64{{0, 0, 10}, {0, 0, 20}, {0, 0, 40}, {0, 0, 40}}},
		{"one below most", 5, 41, 0, [][3]int64{{0, 0, 10}, {0, 0, 20}, {0, 0, 40}, {0, 0, 41}}},
		{"one above most", 5, 39, 0, [][3]int64{{0, 0, 10}, {0, 0, 20}, {0, 0, 39}, {0, 0, 39}}},
		{"base is most", 7, 7, 0, [][3]int64{{1, 0, 8}, {2, 0, 9}, {3, 0, 10}}},
		{"the greatest ones", api.MaxTicks, api.MaxTicks, api.MaxTicks, [][3]int64{{api.MaxClock, api.MaxTicks, 1<<50 + 1<<31}, {api.MaxClock + 1, api.MaxTicks + 1, 1<<50 + 1<<30}}},
		{"now is below 0", 5, 100, 0, [][3]int64{{-1, 0, 10}, {-1000, 0, 20}, {math.MinInt64, 0, 40}, {math.MinInt64 + 1, 0, 80}}},
		{"now is at and beside the limits", 5, 5, 0, [][3]int64{{-1, 0, 5}, {0, 0, 5}, {1, 0, 6}, {api.MaxClock - 1, 0, 1<<50 + 4}, {api.MaxClock, 0, 1<<50 + 5}, {api.MaxClock + 1, 0, 1<<50 + 5}, {1 << 51, 0, 1<<50 + 5}, {math.MaxInt64, 0, 1<<50 + 5}}},
		{"now is earlier than ahead", 5, 100, 0, [][3]int64{{1000, 0, 1010}, {500, 0, 520}, {0, 0, 40}, {-7, 0, 80}, {2000, 0, 2100}, {1, 0, 101}}},
		{"now is ahead of the end of the wait", 5, 100, 0, [][3]int64{{7, 0, 17}, {16, 0, 36}, {20, 0, 60}}},
		{"a draw", 1, 1, 9, [][3]int64{{0, -1, 1}, {0, math.MinInt64, 1}, {0, 0, 1}, {0, 1, 2}, {0, 9, 10}, {0, 10, 1}, {0, 11, 2}, {0, 19, 10}, {0, 20, 1}, {0, math.MaxInt64, 8}}},
		{"a draw without jitter", 5, 5, 0, [][3]int64{{0, 0, 5}, {0, 1, 5}, {0, -1, 5}, {0, math.MaxInt64, 5}, {0, math.MinInt64, 5}}},
		{"a draw with the greatest jitter", 1, 1, api.MaxTicks, [][3]int64{{0, 1, 2}, {0, api.MaxTicks, 1<<30 + 1}, {0, api.MaxTicks + 1, 1}, {0, api.MaxTicks + 2, 2}, {0, -1, 1}, {0, math.MinInt64, 1}}},
		{"the jitter is beyond most", 5, 20, 3, [][3]int64{{0, 3, 13}, {0, 3, 23}, {0, 3, 23}, {0, 4, 20}}},
	} {
		r := made(t, x.base, x.most, x.jitter)
		for i, f := range x.fails {
			failing(t, x.what, r, f[0], f[1], i+1, f[2])
		}
	}
}

// TestFailAsBackoff: a wait is the one of backoff behind so many failures, with the numbers of New, whatever now and the draw are.
func TestFailAsBackoff(t *testing.T) {
	for _, x := range paces() {
		for _, draw := range draws(x[2]) {
			for _, now := range times() {
				r := made(t, x[0], x[1], x[2])
				for k := 1; k <= 3; k++ {
					want := min(max(now, 0), 1<<50) + backoff.Wait(k, x[0], x[1], x[2], draw)
					failing(t, fmt.Sprint("as backoff, of ", x), r, now, draw, k, want)
				}
			}
		}
	}
}

// TestManyFailures: the delay comes to most, and stays there, however often it fails.
func TestManyFailures(t *testing.T) {
	for _, x := range paces() {
		r, p := made(t, x[0], x[1], x[2]), plain{base: x[0], most: x[1], jitter: x[2]}
		last := int64(0)
		for k := 1; k <= 300; k++ {
			failing(t, fmt.Sprint("many, of ", x), r, 9, 0, k, p.fail(9, 0))
			if r.Until() < last || r.Until() > 9+x[1] {
				t.Errorf("many, of %v: the one of number %d waits until %d, the one ahead until %d", x, k, r.Until(), last)
			}
			last = r.Until()
		}
		if last != 9+x[1] {
			t.Errorf("many, of %v: at last it waits until %d", x, last)
		}
		for range 100000 {
			r.Fail(9, 0)
		}
		tells(t, fmt.Sprint("very many, of ", x), r, 100300, 9+x[1])
	}
}

func TestDone(t *testing.T) {
	for _, x := range paces() {
		what := fmt.Sprint("done, of ", x)
		r := made(t, x[0], x[1], x[2])
		doing(t, what+", ahead of any failure", r)
		doing(t, what+", twice ahead of any failure", r)
		r.Fail(7, 3)
		doing(t, what+", behind one", r)
		doing(t, what+", twice behind one", r)
		for range 100 {
			r.Fail(api.MaxClock, x[2])
		}
		doing(t, what+", behind many", r)
		doing(t, what+", twice behind many", r)
	}
}

// TestReady: it is ready from Until on, not one tick ahead of it.
func TestReady(t *testing.T) {
	r := made(t, 5, 100, 0)
	for _, now := range []int64{0, 1, 100, api.MaxClock, api.MaxClock + 1, math.MaxInt64} {
		ready(t, "new", r, now, true)
	}
	for _, now := range []int64{-1, -100, math.MinInt64} {
		ready(t, "new", r, now, false)
	}
	r.Fail(7, 0)
	for _, now := range []int64{math.MinInt64, -1, 0, 7, 16} {
		ready(t, "until 17", r, now, false)
	}
	for _, now := range []int64{17, 18, 1000, api.MaxClock, math.MaxInt64} {
		ready(t, "until 17", r, now, true)
	}
	r.Fail(math.MaxInt64, 0)
	for _, now := range []int64{math.MinInt64, 0, 17, api.MaxClock, api.MaxClock + 19} {
		ready(t, "until 20 beyond the greatest clock", r, now, false)
	}
	for _, now := range []int64{api.MaxClock + 20, api.MaxClock + 21, math.MaxInt64} {
		ready(t, "until 20 beyond the greatest clock", r, now, true)
	}
	r.Done()
	ready(t, "done", r, -1, false)
	ready(t, "done", r, 0, true)
}

// TestBeginsAnew: behind Done the same failures wait as they did at first.
func TestBeginsAnew(t *testing.T) {
	for _, x := range paces() {
		r := made(t, x[0], x[1], x[2])
		for turn := range 5 {
			p := plain{base: x[0], most: x[1], jitter: x[2]}
			for i := range 1 + 9*turn%40 {
				now, draw := int64(3*i), int64(7*i)
				failing(t, fmt.Sprint("anew, of ", x, ", turn ", turn), r, now, draw, i+1, p.fail(now, draw))
			}
			r.Done()
		}
	}
}

// TestAnySteps holds any steps, over retries of any numbers side by side, against P20.1 word by word.
func TestAnySteps(t *testing.T) {
	c := choice(20)
	for range 60 {
		var rs []*Retry
		var ps []*plain
		for range 4 {
			x := paces()[c.below(len(paces()))]
			rs = append(rs, made(t, x[0], x[1], x[2]))
			ps = append(ps, &plain{base: x[0], most: x[1], jitter: x[2]})
		}
		for range 100 {
			i := c.below(len(rs))
			if c.below(9) == 0 {
				rs[i].Done()
				ps[i].done()
			} else {
				now, draw := c.of(times()...), c.of(draws(ps[i].jitter)...)
				if got, want := rs[i].Fail(now, draw), ps[i].fail(now, draw); got != want {
					t.Errorf("Fail(%d, %d): got %d, want %d", now, draw, got, want)
				}
			}
			for j := range rs { // what is done with one changes nothing of the others
				tells(t, fmt.Sprint("any steps, of ", *ps[j]), rs[j], ps[j].fails, ps[j].until)
			}
		}
	}
}

// TestRefusedChangesNothing: a New that is refused changes nothing of what was made ahead, and the next one is made as ever.
func TestRefusedChangesNothing(t *testing.T) {
	r := made(t, 5, 100, 0)
	r.Fail(7, 0)
	refuses(t, "most below base", 5, 4, 0)
	tells(t, "ahead", r, 1, 17)
	failing(t, "ahead", r, 17, 0, 2, 37)
	tells(t, "the next one", made(t, 5, 100, 0), 0, 0)
}
