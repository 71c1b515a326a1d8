package fieldlist

import (
	"math"
	"slices"
	"strconv"
	"testing"

	"qanat/api"
	"qanat/field"
)

// reading is a reader of the fields l.
func reading(t *testing.T, l ...api.Field) *Reader {
	t.Helper()
	b, e := field.Encode(l...)
	if e != api.OK {
		t.Fatalf("the fields' error is %d", e)
	}
	r, e := Open(b)
	if r == nil || e != api.OK {
		t.Fatalf("Open: got %v, %d", r, e)
	}
	return r
}

// is asks what was read, and what ought to be.
func is[T comparable](t *testing.T, what string, got, want T) {
	t.Helper()
	if got != want {
		t.Errorf("%s: got %v, want %v", what, got, want)
	}
}

// spent asks that all that r reads from now on is zero, and that it is not done.
func spent(t *testing.T, what string, r *Reader) {
	t.Helper()
	for range 3 {
		is(t, what+": Done", r.Done(), false)
		is(t, what+": Number", r.Number(), 0)
		is(t, what+": UpTo", r.UpTo(math.MaxInt), 0)
		is(t, what+": Yes", r.Yes(), false)
		is(t, what+": Text", r.Text(), "")
	}
}

func TestFields(t *testing.T) {
	for _, n := range []int64{math.MinInt64, -1, 0, 1, math.MaxInt64} {
		is(t, "a number", Number(n), api.Field{Kind: api.FieldInt, N: n})
	}
	is(t, "yes", Yes(true), api.Field{Kind: api.FieldInt, N: 1})
	is(t, "no", Yes(false), api.Field{Kind: api.FieldInt})
	for _, s := range []string{"", "a", "\xff\x00"} {
		is(t, "a text", Text(s), api.Field{Kind: api.FieldText, S: s})
	}
}

func TestReadInOrder(t *testing.T) {
	r := reading(t, Number(-5), Text("a"), Number(7), Yes(true), Yes(false), Text(""), Number(math.MinInt64))
	is(t, "ahead of all", r.Done(), false)
	is(t, "Number", r.Number(), -5)
	is(t, "Text", r.Text(), "a")
	is(t, "UpTo", r.UpTo(7), 7)
	is(t, "Yes", r.Yes(), true)
	is(t, "Yes", r.Yes(), false)
	is(t, "Text", r.Text(), "")
	is(t, "ahead of the last", r.Done(), false)
	is(t, "Number", r.Number(), math.MinInt64)
	is(t, "behind all", r.Done(), true)
	is(t, "behind all, asked again", r.Done(), true)
}

func TestNoFields(t *testing.T) {
	is(t, "no fields", reading(t).Done(), true)
	for what, read := range reads() {
		r := reading(t)
		read(r)
		spent(t, what+" of no fields", r)
		r = reading(t, Number(1))
		r.Number()
		read(r)
		spent(t, what+" behind the last field", r)
	}
}

// reads is all ways to read a field.
func reads() map[string]func(*Reader) {
	return map[string]func(*Reader){
		"Number": func(r *Reader) { r.Number() },
		"UpTo":   func(r *Reader) { r.UpTo(9) },
		"Yes":    func(r *Reader) { r.Yes() },
		"Text":   func(r *Reader) { r.Text() },
	}
}

// TestWrongKind: what is not of the kind that is asked for makes all that follows wrong.
func TestWrongKind(t *testing.T) {
	for what, read := range reads() {
		wrong := Text("1")
		if what == "Text" {
			wrong = Number(1)
		}
		for _, l := range [][]api.Field{{wrong}, {wrong, Number(1)}, {wrong, Text("a")}, {wrong, Number(1), Text("a"), Number(2)}} {
			r := reading(t, l...)
			read(r)
			spent(t, what+" of another kind", r)
		}
	}
	r := reading(t, Text("a"))
	is(t, "a text as a number", r.Number(), 0)
	is(t, "and as a text", r.Text(), "")
	r = reading(t, Number(5))
	is(t, "a number as a text", r.Text(), "")
	is(t, "and as a number", r.Number(), 0)
}

func TestUpTo(t *testing.T) {
	edges := []int64{math.MinInt64, -256, -1, 0, 1, 2, 255, 256, 1000, 1<<32 - 1, 1 << 32, 1<<32 + 1, math.MaxInt64 - 1, math.MaxInt64}
	for _, most := range edges {
		for _, n := range edges {
			r := reading(t, Number(n), Text("a"))
			got := r.UpTo(int(most))
			what := strconv.FormatInt(n, 10) + " up to " + strconv.FormatInt(most, 10)
			if n < 0 || n > most {
				is(t, what, got, 0)
				spent(t, what, r)
				continue
			}
			is(t, what, got, int(n))
			is(t, what+": the next", r.Text(), "a")
			is(t, what+": Done", r.Done(), true)
		}
	}
}

func TestYes(t *testing.T) {
	for _, n := range []int64{math.MinInt64, -1, 0, 1, 2, 256, 257, 1<<32 + 1, math.MaxInt64} {
		r := reading(t, Number(n))
		is(t, "Yes of "+strconv.FormatInt(n, 10), r.Yes(), n == 1)
		is(t, "Done behind "+strconv.FormatInt(n, 10), r.Done(), n == 0 || n == 1)
	}
}

func TestOpenHasTheErrorsOfFields(t *testing.T) {
	b, _ := field.Encode(Number(1), Text("ab"))
	for n := range b {
		opensNot(t, b[:n], api.ErrShort)
	}
	opensNot(t, append(slices.Clone(b), 0), api.ErrForm)
	opensNot(t, []byte{0, 1, 3}, api.ErrForm)
	opensNot(t, []byte{0x80, 0}, api.ErrForm)
}

// opensNot asks that Open answers that error, and nothing else.
func opensNot(t *testing.T, b []byte, want api.Errno) {
	t.Helper()
	if r, e := Open(b); r != nil || e != want {
		t.Errorf("Open of % x: got %v, %d, want %d alone", b, r, e, want)
	}
}

// TestBytesStay: the bytes that Open takes, with the room behind their end, are not changed and not kept.
func TestBytesStay(t *testing.T) {
	b, _ := field.Encode(Number(1), Text("ab"), Text("c"))
	n := len(b)
	b = append(b, "behind the end"...)
	first := slices.Clone(b)
	r, _ := Open(b[:n])
	other, _ := Open(b[:n])
	is(t, "Number", r.Number(), 1)
	is(t, "Text", r.Text(), "ab")
	is(t, "changed", slices.Equal(b, first), true)
	clear(b)
	is(t, "the other's Number", other.Number(), 1)
	is(t, "the other's Text", other.Text(), "ab")
	is(t, "Text", r.Text(), "c")
	is(t, "Done", r.Done(), true)
	is(t, "the other's Done", other.Done(), false)
}
