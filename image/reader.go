package image

import (
	"qanat/api"
	"qanat/fieldlist"
	"qanat/rec"
)

// reader reads fields as those of an image.
type reader struct {
	*fieldlist.Reader
}

// open is a reader of the fields that b, as one record, holds; false, if b is no such record.
func open(b []byte) (reader, bool) {
	p, n, e := rec.Take(b)
	if e != api.OK || n < len(b) {
		return reader{}, false
	}
	fields, e := fieldlist.Open(p)
	if e != api.OK {
		return reader{}, false
	}
	return reader{fields}, true
}

// image is the lsn and the tables of which the next fields are, which need not be those of an image that may be.
func (r reader) image() (int64, [][]api.Row) {
	lsn := r.Number()
	var tables [][]api.Row
	for range r.UpTo(api.MaxTables) {
		tables = append(tables, r.table())
	}
	return lsn, tables
}

// table is the rows of which the next fields are, with how many there are ahead of them.
func (r reader) table() []api.Row {
	var l []api.Row
	for range r.UpTo(api.MaxRows) {
		l = append(l, r.row())
	}
	return l
}

// row is the row of which the next fields are.
func (r reader) row() api.Row {
	var x api.Row
	x.Key = r.Number()
	x.Val = r.Text()
	return x
}
