package sink

import (
	"qanat/api"
	"qanat/req"
)

// noted is the requests l behind the notes, done one behind the other; false, if one of them can't be done.
func noted(l []api.Req, notes []api.Note) ([]api.Req, bool) {
	for _, n := range notes {
		next, ok := note(l, n)
		if !ok {
			return nil, false
		}
		l = next
	}
	return l, true
}

// note is the requests l behind one note; false, if it can't be done.
func note(l []api.Req, n api.Note) ([]api.Req, bool) {
	if n.Kind == api.NoteAccept {
		return accepted(l, n)
	}
	return req.Chunk(l, n.ID, n.Cursor, n.Done)
}

// accepted is l with the request of the note behind it; false, if it can't be, or has another ID there.
func accepted(l []api.Req, n api.Note) ([]api.Req, bool) {
	more, ok := req.Accept(l, n.Table, n.Weight, n.At)
	if !ok || more[len(more)-1].ID != n.ID {
		return nil, false
	}
	return more, true
}
