package image

import (
	"qanat/api"
	"qanat/fieldlist"
)

// gatherer holds the fields that were added so far.
type gatherer struct {
	fields []api.Field
}

// add puts the fields l, in their order, behind those that are there.
func (g *gatherer) add(l ...api.Field) {
	g.fields = append(g.fields, l...)
}

// fieldsOf is the fields of the image of the tables at lsn.
func fieldsOf(lsn int64, tables [][]api.Row) []api.Field {
	var g gatherer
	g.add(fieldlist.Number(lsn), fieldlist.Number(int64(len(tables))))
	for _, l := range tables {
		g.add(fieldlist.Number(int64(len(l))))
		for _, r := range l {
			g.add(fieldlist.Number(r.Key), fieldlist.Text(r.Val))
		}
	}
	return g.fields
}
