package txn

import (
	"encoding/binary"
	"math"
	"slices"
	"strconv"
	"strings"
	"testing"

	"qanat/api"
)

// same tells whether a and b have the same fields and the same elements; nil and an empty list are the same.
func same(a, b api.Txn) bool {
	return a.Lsn == b.Lsn && a.Kind == b.Kind && a.Mark == b.Mark && slices.Equal(a.Changes, b.Changes) && slices.Equal(a.Signals, b.Signals)
}

// client is a client's transaction.
func client(l []api.Change, signals ...string) api.Txn {
	return api.Txn{Lsn: 1, Kind: api.TxnClient, Changes: l, Signals: signals}
}

// changes is n changes that may be, no two the same.
func changes(n int) []api.Change {
	l := make([]api.Change, n)
	for i := range l {
		l[i] = api.Change{Table: i % api.MaxTables, Key: int64(i)*0x1234567 + 1, Gone: i%3 == 2}
		if !l[i].Gone {
			l[i].Val = strings.Repeat(string(rune('a'+i%26)), (i*5+1)%(api.MaxVal+1))
		}
	}
	return l
}

// full is a client's transaction with all that one may have.
func full() api.Txn {
	t := client(changes(api.MaxChanges), strings.Repeat("s", api.MaxSignal), "\x00\xff not of runes")
	t.Lsn = api.MaxLsn
	return t
}

// several is a client's transaction of some changes and signals.
func several() api.Txn {
	t := client([]api.Change{{Table: 2, Key: 9, Val: "val"}, {Key: 3, Gone: true}, {Table: 7, Key: api.MaxKey}}, "snapshot 2", "")
	t.Lsn = 300
	return t
}

// good is transactions that may be: both ends of all that the chapter names.
func good() map[string]api.Txn {
	m := map[string]api.Txn{
		"the least":         {Lsn: 1, Kind: api.TxnClient},
		"of the last Lsn":   {Lsn: api.MaxLsn, Kind: api.TxnClient},
		"of empty lists":    client([]api.Change{}, []string{}...),
		"full":              full(),
		"several":           several(),
		"one signal":        client(nil, "a"),
		"an empty signal":   client(nil, ""),
		"two empty signals": client(nil, "", ""),
		"the same twice":    client([]api.Change{{Key: 1}, {Key: 1}}, "a", "a"),
		"empty lists, mark": {Lsn: 2, Kind: api.TxnHigh, Mark: 1, Changes: []api.Change{}, Signals: []string{}},
		"a mark ahead":      {Lsn: 2, Kind: api.TxnHigh, Mark: 7},
	}
	for what, c := range goodChanges() {
		m["of a change, "+what] = client([]api.Change{c})
		m["of a last change, "+what] = client(append(changes(api.MaxChanges-1), c), "a")
	}
	for _, n := range []int{1, 2, 15, 16} {
		m["of so many changes: "+strconv.Itoa(n)] = client(changes(n))
	}
	for _, n := range []int64{1, 2, 255, 256, 1 << 32, api.MaxLsn - 1, api.MaxLsn} {
		m["low, of the mark "+strconv.FormatInt(n, 10)] = api.Txn{Lsn: api.MaxLsn + 1 - n, Kind: api.TxnLow, Mark: n}
		m["high, of the mark "+strconv.FormatInt(n, 10)] = api.Txn{Lsn: n, Kind: api.TxnHigh, Mark: n}
	}
	return m
}

// bad is transactions that may not be, each for one reason alone.
func bad() map[string]api.Txn {
	m := map[string]api.Txn{
		"nothing":               {},
		"MaxChanges + 1":        client(changes(api.MaxChanges + 1)),
		"many changes":          client(changes(1 << 10)),
		"MaxSignals + 1":        client(nil, "", "", ""),
		"many signals":          client(nil, make([]string, 1<<10)...),
		"a long signal":         client(nil, strings.Repeat("s", api.MaxSignal+1)),
		"a long last signal":    client(nil, "", strings.Repeat("s", api.MaxSignal+1)),
		"a signal of MaxText+1": client(nil, strings.Repeat("s", api.MaxText+1)),
	}
	for _, k := range []int{api.TxnLow, api.TxnHigh} {
		m["a change beside a mark of Kind "+strconv.Itoa(k)] = api.Txn{Lsn: 1, Kind: k, Mark: 1, Changes: changes(1)}
		m["a signal beside a mark of Kind "+strconv.Itoa(k)] = api.Txn{Lsn: 1, Kind: k, Mark: 1, Signals: []string{""}}
		m["both beside a mark of Kind "+strconv.Itoa(k)] = api.Txn{Lsn: 1, Kind: k, Mark: 1, Changes: changes(1), Signals: []string{"a"}}
	}
	for what, c := range badChanges() {
		m["of a change, "+what] = client([]api.Change{c})
		m["of a first change, "+what] = client(append([]api.Change{c}, changes(3)...))
		m["of a last change, "+what] = client(append(changes(api.MaxChanges-1), c), "a")
	}
	return m
}

// goodChanges is changes that may be among MaxTables tables.
func goodChanges() map[string]api.Change {
	most := strings.Repeat("v", api.MaxVal)
	return map[string]api.Change{
		"the least":            {Key: 1},
		"of the last table":    {Table: api.MaxTables - 1, Key: 5, Val: "a"},
		"MaxKey":               {Table: 3, Key: api.MaxKey, Val: "a"},
		"MaxKey - 1":           {Table: 3, Key: api.MaxKey - 1, Val: "a"},
		"of MaxVal bytes":      {Table: 1, Key: 2, Val: most},
		"of one less":          {Table: 1, Key: 2, Val: most[1:]},
		"of bytes, not runes":  {Table: 1, Key: 2, Val: "\xff\x00\xfe"},
		"gone":                 {Table: 1, Key: 2, Gone: true},
		"gone, the last there": {Table: api.MaxTables - 1, Key: api.MaxKey, Gone: true},
		"all at the end":       {Table: api.MaxTables - 1, Key: api.MaxKey, Val: most},
	}
}

// badChanges is changes that may not be among MaxTables tables.
func badChanges() map[string]api.Change {
	long := strings.Repeat("v", api.MaxVal+1)
	return map[string]api.Change{
		"nothing":              {},
		"of a table below 0":   {Table: -1, Key: 1},
		"of a table far below": {Table: math.MinInt, Key: 1},
		"of a table too many":  {Table: api.MaxTables, Key: 1},
		"of a table 256":       {Table: 256, Key: 1},
		"of a table 2^32":      {Table: 1 << 32, Key: 1},
		"of the last number":   {Table: math.MaxInt, Key: 1},
		"of a key 0":           {Table: 1, Key: 0, Val: "a"},
		"of a key -1":          {Table: 1, Key: -1, Val: "a"},
		"of MaxKey + 1":        {Table: 1, Key: api.MaxKey + 1, Val: "a"},
		"of the greatest key":  {Table: 1, Key: math.MaxInt64},
		"of the least key":     {Table: 1, Key: math.MinInt64},
		"of MaxVal + 1 bytes":  {Table: 1, Key: 1, Val: long},
		"of far more bytes":    {Table: 1, Key: 1, Val: strings.Repeat("v", 300)},
		"of runes, too many":   {Table: 1, Key: 1, Val: strings.Repeat("ü", api.MaxVal)},
		"gone, with a value":   {Table: 1, Key: 1, Gone: true, Val: "a"},
		"gone, with a zero":    {Table: 1, Key: 1, Gone: true, Val: "\x00"},
		"gone, with too much":  {Table: 1, Key: 1, Gone: true, Val: long},
		"gone, of a key 0":     {Table: 1, Gone: true},
		"gone, of no table":    {Table: api.MaxTables, Key: 1, Gone: true},
	}
}

// num is a field of a number.
func num(n int64) api.Field { return api.Field{Kind: api.FieldInt, N: n} }

// str is a field of a text.
func str(s string) api.Field { return api.Field{Kind: api.FieldText, S: s} }

// list is the fields that P7.1 lists, of whatever transaction.
func list(t api.Txn) []api.Field {
	l := []api.Field{num(t.Lsn), num(int64(t.Kind)), num(t.Mark), num(int64(len(t.Changes)))}
	for _, c := range t.Changes {
		gone := int64(0)
		if c.Gone {
			gone = 1
		}
		l = append(l, num(int64(c.Table)), num(c.Key), num(gone), str(c.Val))
	}
	l = append(l, num(int64(len(t.Signals))))
	for _, s := range t.Signals {
		l = append(l, str(s))
	}
	return l
}

// raw is the bytes of fields as P2.1 has them, by the library's means alone.
func raw(l ...api.Field) []byte {
	b := binary.BigEndian.AppendUint16(nil, uint16(len(l)))
	for _, f := range l {
		b = append(b, byte(f.Kind))
		if f.Kind == api.FieldInt {
			b = binary.BigEndian.AppendUint64(b, uint64(f.N))
			continue
		}
		b = binary.BigEndian.AppendUint16(b, uint16(len(f.S)))
		b = append(b, f.S...)
	}
	return b
}

// decoded asks that Decode answers that transaction.
func decoded(t *testing.T, what string, b []byte, want api.Txn) {
	t.Helper()
	if got, e := Decode(b); e != api.OK || !same(got, want) {
		t.Errorf("Decode of %s (% x): got %#v, %d, want %#v", what, b, got, e, want)
	}
}

// faulty asks that Decode answers that error, and nothing else.
func faulty(t *testing.T, what string, b []byte, want api.Errno) {
	t.Helper()
	if got, e := Decode(b); e != want || !same(got, api.Txn{}) {
		t.Errorf("Decode of %s (% .200x): got %#v, %d, want %d alone", what, b, got, e, want)
	}
}
