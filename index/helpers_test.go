package index

import (
	"cmp"
	"maps"
	"math"
	"slices"
	"testing"

	"qanat/api"
)

// row is a row of that key and that val.
func row(key int64, val string) api.Row { return api.Row{Key: key, Val: val} }

// list is a list of rows.
func list(l ...api.Row) []api.Row { return l }

// plain is P8.1 word by word: no order is kept, it is made where it is asked for.
type plain map[int64]string

// put is what Put does and tells.
func (p plain) put(key int64, val string) bool {
	_, there := p[key]
	p[key] = val
	return !there
}

// del is what Del does and tells.
func (p plain) del(key int64) bool {
	_, there := p[key]
	delete(p, key)
	return there
}

// all is what All tells.
func (p plain) all() []api.Row {
	var l []api.Row
	for _, key := range slices.SortedFunc(maps.Keys(p), cmp.Compare[int64]) {
		l = append(l, row(key, p[key]))
	}
	return l
}

// after is what After tells, where l is all rows, rising.
func after(l []api.Row, key int64, n int) []api.Row {
	var above []api.Row
	for _, r := range l {
		if r.Key > key && len(above) < n {
			above = append(above, r)
		}
	}
	return above
}

// rowsAre holds rows that were answered against those that are asked for.
func rowsAre(t *testing.T, what string, got []api.Row, want ...api.Row) {
	t.Helper()
	if !slices.Equal(got, want) {
		t.Errorf("%s: got %+v, want %+v", what, got, want)
	}
}

// told asks what Put and Del answered, in their order.
func told(t *testing.T, what string, want bool, got ...bool) {
	t.Helper()
	for i, ok := range got {
		if ok != want {
			t.Errorf("%s: call %d of %d: got %v, want %v", what, i, len(got), ok, want)
		}
	}
}

// has asks that there is a row of that key, with that val.
func has(t *testing.T, what string, x *Index, key int64, want string) {
	t.Helper()
	if val, ok := x.Get(key); val != want || !ok {
		t.Errorf("%s: key %d: got %q, %v, want %q, true", what, key, val, ok, want)
	}
}

// lacks asks that there is no row of these keys.
func lacks(t *testing.T, what string, x *Index, keys ...int64) {
	t.Helper()
	for _, key := range keys {
		if val, ok := x.Get(key); val != "" || ok {
			t.Errorf("%s: key %d: got %q, %v, want none", what, key, val, ok)
		}
	}
}

// counts is the numbers that may matter where there are so many rows.
func counts(n int) []int {
	return []int{math.MinInt, -2, -1, 0, 1, 2, n - 1, n, n + 1, math.MaxInt - 1, math.MaxInt}
}

// near is each key of l, those beside it, and the ends of all keys.
func near(l []api.Row) []int64 {
	keys := []int64{math.MinInt64, math.MinInt64 + 1, -1, 0, 1, math.MaxInt64 - 1, math.MaxInt64}
	for _, r := range l {
		keys = append(keys, r.Key)
		if r.Key > math.MinInt64 {
			keys = append(keys, r.Key-1)
		}
		if r.Key < math.MaxInt64 {
			keys = append(keys, r.Key+1)
		}
	}
	return keys
}

// holds asks all that x tells: that it has just these rows, which rise by their keys.
func holds(t *testing.T, what string, x *Index, want ...api.Row) {
	t.Helper()
	rowsAre(t, what+": All", x.All(), want...)
	if x.Len() != len(want) {
		t.Errorf("%s: Len: got %d, want %d", what, x.Len(), len(want))
	}
	p := plain{}
	for _, r := range want {
		p.put(r.Key, r.Val)
	}
	for _, key := range near(want) {
		if val, there := p[key]; there {
			has(t, what, x, key, val)
		} else {
			lacks(t, what, x, key)
		}
		for _, n := range counts(len(want)) {
			rowsAre(t, what+": After", x.After(key, n), after(want, key, n)...)
		}
	}
}

// orders hands f each order of l, one behind the other.
func orders(l []api.Row, f func([]api.Row)) {
	var lay func(int)
	lay = func(n int) {
		if n == len(l) {
			f(slices.Clone(l))
			return
		}
		for i := n; i < len(l); i++ {
			l[n], l[i] = l[i], l[n]
			lay(n + 1)
			l[n], l[i] = l[i], l[n]
		}
	}
	lay(0)
}

// choice tells numbers that look like chance, and are the same in each run.
type choice uint64

// below is the next number, from 0 to one less than n.
func (c *choice) below(n int) int {
	*c = *c*6364136223846793005 + 1442695040888963407
	return int(uint64(*c) >> 33 % uint64(n))
}
