package txn

import (
	"qanat/api"
	"qanat/fieldlist"
)

// gatherer holds the fields that were added so far.
type gatherer struct {
	fields []api.Field
}

// add puts the fields l, in their order, behind those that are there.
func (g *gatherer) add(l ...api.Field) {
	g.fields = append(g.fields, l...)
}

// fieldsOf is the fields of t.
func fieldsOf(t api.Txn) []api.Field {
	var g gatherer
	g.add(fieldlist.Number(t.Lsn), fieldlist.Number(int64(t.Kind)), fieldlist.Number(t.Mark))
	g.add(fieldlist.Number(int64(len(t.Changes))))
	for _, c := range t.Changes {
		g.add(fieldlist.Number(int64(c.Table)), fieldlist.Number(c.Key), fieldlist.Yes(c.Gone), fieldlist.Text(c.Val))
	}
	g.add(fieldlist.Number(int64(len(t.Signals))))
	for _, s := range t.Signals {
		g.add(fieldlist.Text(s))
	}
	return g.fields
}
