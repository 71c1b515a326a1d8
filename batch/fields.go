package batch

import (
	"qanat/api"
	"qanat/fieldlist"
)

// fieldsOf is the fields of x.
func fieldsOf(x api.Item) []api.Field {
	l := []api.Field{fieldlist.Number(x.Lsn)}
	l = append(l, fieldlist.Number(int64(len(x.Ops))))
	for _, o := range x.Ops {
		l = append(l, fieldlist.Number(o.Lsn), fieldlist.Number(int64(o.Table)), fieldlist.Number(o.Key), fieldlist.Yes(o.Gone), fieldlist.Text(o.Val))
	}
	l = append(l, fieldlist.Number(int64(len(x.Notes))))
	for _, n := range x.Notes {
		l = append(l, fieldlist.Number(int64(n.Kind)), fieldlist.Number(int64(n.ID)), fieldlist.Number(int64(n.Table)), fieldlist.Number(int64(n.Weight)))
		l = append(l, fieldlist.Number(n.At), fieldlist.Number(n.Cursor), fieldlist.Yes(n.Done))
	}
	return l
}
