package src

import (
	"qanat/api"
	"qanat/disk"
	"qanat/image"
)

// images is the two image files of a source: one is written while the other, the newest one's, stays as it is.
type images struct {
	disk *disk.Disk
	lsn  int64 // the newest image's; 0, if there is none
	next int   // the file that the next image goes into
}

// other is the image file beside f.
func other(f int) int {
	if f == api.ImageBase {
		return api.ImageBase + 1
	}
	return api.ImageBase
}

// find looks for the newest image of so many tables: their rows; none, if there is no such image.
func (m *images) find(tables int) [][]api.Row {
	var newest [][]api.Row
	for _, f := range []int{api.ImageBase, other(api.ImageBase)} {
		lsn, rows, ok := m.good(f, tables)
		if ok && (newest == nil || lsn > m.lsn) {
			newest, m.lsn, m.next = rows, lsn, other(f)
		}
	}
	return newest
}

// good is the lsn and the rows of the image in file f; false, if there is none of so many tables.
func (m *images) good(f, tables int) (int64, [][]api.Row, bool) {
	b, ok := m.disk.Read(f)
	if !ok {
		return 0, nil, false
	}
	lsn, rows, e := image.Decode(b)
	if e != api.OK || len(rows) != tables {
		return 0, nil, false
	}
	return lsn, rows, true
}

// write lays the image b, which is at lsn, into the file that is not the newest one's; it is the newest as soon as it is safe.
func (m *images) write(lsn int64, b []byte) api.Errno {
	f := m.next
	e := m.empty(f)
	if e == api.OK {
		e = m.disk.Append(f, b)
	}
	if e == api.OK {
		e = m.disk.Sync(f)
	}
	if e == api.OK {
		m.lsn, m.next = lsn, other(f)
	}
	return e
}

// empty cuts off all bytes of file f, if it is there.
func (m *images) empty(f int) api.Errno {
	if m.disk.Len(f) < 0 {
		return api.OK
	}
	return m.disk.Cut(f, 0)
}
