package batch

import (
	"qanat/api"
	"qanat/req"
)

// mayOps tells whether an item of that Lsn may have the ops l.
func mayOps(l []api.Op, lsn int64) bool {
	if len(l) > api.MaxOps {
		return false
	}
	for _, o := range l {
		if !mayOp(o, lsn) {
			return false
		}
	}
	return true
}

// mayOp tells whether an item of that Lsn may have the op o.
func mayOp(o api.Op, lsn int64) bool {
	if o.Lsn < 1 || o.Lsn > lsn {
		return false
	}
	if o.Table < 0 || o.Table >= api.MaxTables {
		return false
	}
	if o.Key < 1 || o.Key > api.MaxKey {
		return false
	}
	if o.Gone {
		return o.Val == ""
	}
	return len(o.Val) <= api.MaxVal
}

// mayNotes tells whether an item of that Lsn may have the notes l.
func mayNotes(l []api.Note, lsn int64) bool {
	if len(l) > api.MaxNotes {
		return false
	}
	for _, n := range l {
		if !mayNote(n, lsn) {
			return false
		}
	}
	return true
}

// mayNote tells whether an item of that Lsn may have the note n.
func mayNote(n api.Note, lsn int64) bool {
	if n.ID < 1 || n.ID > api.MaxReqs {
		return false
	}
	switch n.Kind {
	case api.NoteAccept:
		return mayRequest(n) && n.At <= lsn && n.Cursor == 0 && !n.Done
	case api.NoteChunk:
		return n.Table == 0 && n.Weight == 0 && n.At == 0 && n.Cursor >= 0 && n.Cursor <= api.MaxKey
	}
	return false
}

// mayRequest tells whether a request of what n tells may be: its bounds are those that layer 14 has.
func mayRequest(n api.Note) bool {
	_, ok := req.Accept(nil, n.Table, n.Weight, n.At)
	return ok
}

// mayAll tells whether each of l may be.
func mayAll(l []api.Item) bool {
	for _, x := range l {
		if !May(x) {
			return false
		}
	}
	return true
}

// fit tells whether one item may have as many ops and notes as l have in all.
func fit(l []api.Item) bool {
	ops, notes := 0, 0
	for _, x := range l {
		ops += len(x.Ops)
		notes += len(x.Notes)
	}
	return ops <= api.MaxOps && notes <= api.MaxNotes
}

// rise tells whether each Lsn is above the one ahead of it.
func rise(l []api.Item) bool {
	for i := 1; i < len(l); i++ {
		if l[i].Lsn <= l[i-1].Lsn {
			return false
		}
	}
	return true
}
