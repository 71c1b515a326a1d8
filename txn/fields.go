package txn

import (
	"qanat/api"
)

// gatherer holds the fields that were added so far.
type gatherer struct {
	fields []api.Field
}

// add puts the fields l, in their order, behind those that are there.
func (g *gatherer) add(l ...api.Field) {
	g.fields = append(g.fields, l...)
}

// number is a field of the number n.
func number(n int64) api.Field {
	return api.Field{Kind: api.FieldInt, N: n}
}

// yes is a field of 1 for true, of 0 for false.
func yes(b bool) api.Field {
	if b {
		return number(1)
	}
	return number(0)
}

// text is a field of the text s.
func text(s string) api.Field {
	return api.Field{Kind: api.FieldText, S: s}
}

// fieldsOf is the fields of t.
func fieldsOf(t api.Txn) []api.Field {
	var g gatherer
	g.add(number(t.Lsn), number(int64(t.Kind)), number(t.Mark))
	g.add(number(int64(len(t.Changes))))
	for _, c := range t.Changes {
		g.add(number(int64(c.Table)), number(c.Key), yes(c.Gone), text(c.Val))
	}
	g.add(number(int64(len(t.Signals))))
	for _, s := range t.Signals {
		g.add(text(s))
	}
	return g.fields
}
