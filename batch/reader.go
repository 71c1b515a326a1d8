package batch

import (
	"qanat/api"
	"qanat/fieldlist"
)

// reader reads fields as those of an item.
type reader struct {
	*fieldlist.Reader
}

// item is the item of which the next fields are, which need not be one that may be.
func (r reader) item() api.Item {
	var x api.Item
	x.Lsn = r.Number()
	for range r.UpTo(api.MaxOps) {
		x.Ops = append(x.Ops, r.op())
	}
	for range r.UpTo(api.MaxNotes) {
		x.Notes = append(x.Notes, r.note())
	}
	return x
}

// op is the op of which the next fields are.
func (r reader) op() api.Op {
	var o api.Op
	o.Lsn = r.Number()
	o.Table = r.UpTo(api.MaxTables - 1)
	o.Key = r.Number()
	o.Gone = r.Yes()
	o.Val = r.Text()
	return o
}

// note is the note of which the next fields are.
func (r reader) note() api.Note {
	var n api.Note
	n.Kind = r.UpTo(api.NoteChunk)
	n.ID = r.UpTo(api.MaxReqs)
	n.Table = r.UpTo(api.MaxTables - 1)
	n.Weight = r.UpTo(api.MaxWeight)
	n.At = r.Number()
	n.Cursor = r.Number()
	n.Done = r.Yes()
	return n
}
