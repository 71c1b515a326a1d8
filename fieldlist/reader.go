package fieldlist

import (
	"qanat/api"
	"qanat/field"
)

// Reader takes fields off the front of those that it has not read yet. Once one was not what was asked for it is wrong, and all
// that it reads is zero, so that one look at the end (Done) does for all of them.
type Reader struct {
	rest  []api.Field
	wrong bool
}

// Open is a reader of the fields of which b has the bytes, or field.Decode's error.
func Open(b []byte) (*Reader, api.Errno) {
	l, e := field.Decode(b)
	if e != api.OK {
		return nil, e
	}
	return &Reader{rest: l}, api.OK
}

// Number is the next field's number.
func (r *Reader) Number() int64 {
	return r.next(api.FieldInt).N
}

// UpTo is the next field's number, which is to be from 0 to most: so it is known to be an int, and a count to be small, ahead of
// its use.
func (r *Reader) UpTo(most int) int {
	n := r.Number()
	if n < 0 || n > int64(most) {
		r.wrong = true
		return 0
	}
	return int(n)
}

// Yes is whether the next field's number is 1, where it is to be 1 or 0.
func (r *Reader) Yes() bool {
	return r.UpTo(1) == 1
}

// Text is the next field's text.
func (r *Reader) Text() string {
	return r.next(api.FieldText).S
}

// Done tells whether all fields were read, and each was what was asked for.
func (r *Reader) Done() bool {
	return !r.wrong && len(r.rest) == 0
}

// next is the next field, if it is of that kind.
func (r *Reader) next(kind int) api.Field {
	if r.wrong || len(r.rest) == 0 || r.rest[0].Kind != kind {
		r.wrong = true
		return api.Field{}
	}
	f := r.rest[0]
	r.rest = r.rest[1:]
	return f
}
