package txn

import (
	"qanat/api"
)

// reader takes fields off the front of those that it has not read yet. Once one was not what was asked for it is wrong, and all
// that it reads is zero, so that one look at the end does for all of them.
type reader struct {
	rest  []api.Field
	wrong bool
}

// next is the next field, if it is of that kind.
func (r *reader) next(kind int) api.Field {
	if r.wrong || len(r.rest) == 0 || r.rest[0].Kind != kind {
		r.wrong = true
		return api.Field{}
	}
	f := r.rest[0]
	r.rest = r.rest[1:]
	return f
}

// number is the next field's number.
func (r *reader) number() int64 {
	return r.next(api.FieldInt).N
}

// upTo is the next field's number, which is to be from 0 to most: so it is known to be an int, and a count to be small, ahead of
// its use.
func (r *reader) upTo(most int) int {
	n := r.number()
	if n < 0 || n > int64(most) {
		r.wrong = true
		return 0
	}
	return int(n)
}

// text is the next field's text.
func (r *reader) text() string {
	return r.next(api.FieldText).S
}

// txn is the transaction of which the next fields are, which need not be one that may be.
func (r *reader) txn() api.Txn {
	var t api.Txn
	t.Lsn = r.number()
	t.Kind = r.upTo(api.TxnHigh)
	t.Mark = r.number()
	for range r.upTo(api.MaxChanges) {
		t.Changes = append(t.Changes, r.change())
	}
	for range r.upTo(api.MaxSignals) {
		t.Signals = append(t.Signals, r.text())
	}
	return t
}

// change is the change of which the next fields are.
func (r *reader) change() api.Change {
	var c api.Change
	c.Table = r.upTo(api.MaxTables - 1)
	c.Key = r.number()
	c.Gone = r.upTo(1) == 1
	c.Val = r.text()
	return c
}
