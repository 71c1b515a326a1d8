package req

import (
	"slices"

	"qanat/api"
)

// firstID is the ID of the first request of a list.
const firstID = 1

// list is requests in the order in which they came.
type list []api.Req

// may tells whether l may be: each one could come behind those ahead of it.
func (l list) may() bool {
	for i, r := range l {
		if !l[:i].takes(r) {
			return false
		}
	}
	return true
}

// takes tells whether l, which may be, may be with r behind it, too.
func (l list) takes(r api.Req) bool {
	return len(l) < api.MaxReqs && r.ID == l.nextID() && inBounds(r) && r.At >= l.lastAt() && !l.waits(r.Table)
}

// inBounds tells whether each number of r but its ID is one that it may be in some list.
func inBounds(r api.Req) bool {
	return r.Table >= 0 && r.Table < api.MaxTables &&
		r.Weight >= 1 && r.Weight <= api.MaxWeight &&
		r.At >= 1 && r.At <= api.MaxLsn &&
		r.Cursor >= 0 && r.Cursor <= api.MaxKey &&
		r.Chunks >= 0 && r.Chunks <= api.MaxLsn
}

// nextID is the ID of one that comes behind l.
func (l list) nextID() int { return len(l) + firstID }

// lastAt is the At that one behind l may not be below.
func (l list) lastAt() int64 {
	if len(l) == 0 {
		return 0
	}
	return l[len(l)-1].At
}

// waits tells whether there is a request for that table which is not done.
func (l list) waits(table int) bool {
	return slices.ContainsFunc(l, func(r api.Req) bool { return r.Table == table && !r.Done })
}

// find is the request of that ID, if l may be.
func (l list) find(id int) (api.Req, bool) {
	if id < firstID || id >= l.nextID() {
		return api.Req{}, false
	}
	return l[id-firstID], true
}

// with is a new list: l, and r behind it.
func (l list) with(r api.Req) list { return slices.Concat(l, list{r}) }

// changed is a new list: l, with r in the place of the one of its ID.
func (l list) changed(r api.Req) list {
	m := slices.Clone(l)
	m[r.ID-firstID] = r
	return m
}

// open is a new list: those that are not done.
func (l list) open() list {
	var m list
	for _, r := range l {
		if !r.Done {
			m = append(m, r)
		}
	}
	return m
}
