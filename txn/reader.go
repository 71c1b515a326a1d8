package txn

import (
	"qanat/api"
	"qanat/fieldlist"
)

// reader reads fields as those of a transaction.
type reader struct {
	*fieldlist.Reader
}

// txn is the transaction of which the next fields are, which need not be one that may be.
func (r reader) txn() api.Txn {
	var t api.Txn
	t.Lsn = r.Number()
	t.Kind = r.UpTo(api.TxnHigh)
	t.Mark = r.Number()
	for range r.UpTo(api.MaxChanges) {
		t.Changes = append(t.Changes, r.change())
	}
	for range r.UpTo(api.MaxSignals) {
		t.Signals = append(t.Signals, r.Text())
	}
	return t
}

// change is the change of which the next fields are.
func (r reader) change() api.Change {
	var c api.Change
	c.Table = r.UpTo(api.MaxTables - 1)
	c.Key = r.Number()
	c.Gone = r.Yes()
	c.Val = r.Text()
	return c
}
