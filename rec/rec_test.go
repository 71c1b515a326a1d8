package rec

import (
	"bytes"
	"hash/crc32"
	"slices"
	"testing"

	"qanat/api"
)

// some is n bytes that look like none in particular, the same at each call.
func some(n int) []byte {
	b := make([]byte, n)
	x := uint32(n) + 1
	for i := range b {
		x = x*1664525 + 1013904223
		b[i] = byte(x >> 24)
	}
	return b
}

// four is x in four bytes, the highest first.
func four(x int) []byte {
	return []byte{byte(x / (1 << 24)), byte(x / (1 << 16) % 256), byte(x / 256 % 256), byte(x % 256)}
}

// plain is P3.1 word by word, with the library's sum; p may be longer than a record may be.
func plain(p []byte) []byte {
	count := four(len(p))
	sum := crc32.ChecksumIEEE(slices.Concat(count, p))
	return slices.Concat(count, four(int(sum)), p)
}

// taken asks that Take answers p, and that the record has all of its bytes.
func taken(t *testing.T, what string, b, p []byte) {
	t.Helper()
	q, n, e := Take(b)
	if e != api.OK || n != 8+len(p) || !bytes.Equal(q, p) {
		t.Errorf("Take of %s: got %d bytes held of %d, %d, want %d of %d", what, len(q), n, e, len(p), 8+len(p))
	}
}

// faulty asks that Take answers that error, and nothing else.
func faulty(t *testing.T, what string, b []byte, want api.Errno) {
	t.Helper()
	if p, n, e := Take(b); e != want || n != 0 || len(p) != 0 {
		t.Errorf("Take of %s: got %d bytes held of %d, %d, want none, %d", what, len(p), n, e, want)
	}
}

// scanned holds what Scan answers against what records hold.
func scanned(t *testing.T, what string, b []byte, want ...[]byte) {
	t.Helper()
	size := 0
	for _, p := range want {
		size += 8 + len(p)
	}
	l, n := Scan(b)
	if n != size || !slices.EqualFunc(l, want, bytes.Equal) {
		t.Errorf("Scan of %s: got %d records of %d bytes, want %d of %d", what, len(l), n, len(want), size)
	}
}

func TestExamples(t *testing.T) {
	want := []byte{0, 0, 0, 0, 0x21, 0x44, 0xdf, 0x1c}
	for _, p := range [][]byte{nil, {}} {
		if b, e := Put(p); e != api.OK || !bytes.Equal(b, want) {
			t.Errorf("Put of nothing: got % x, %d", b, e)
		}
	}
	taken(t, "a record of nothing", want, nil)
	scanned(t, "a record of nothing", want, nil)
}

func TestKnownRecord(t *testing.T) {
	want := []byte("\x00\x00\x00\x03\x45\xbc\xe8\x40abc")
	if b, e := Put([]byte("abc")); e != api.OK || !bytes.Equal(b, want) {
		t.Errorf("Put of abc: got % x, %d, want % x", b, e, want)
	}
	taken(t, "abc", want, []byte("abc"))
}

// sizes has those at which one more byte of the count is used, and the greatest that may be.
func sizes() []int {
	return []int{0, 1, 2, 3, 7, 8, 9, 255, 256, 257, 1<<16 - 1, 1 << 16, 1<<16 + 1, api.MaxRecord - 1, api.MaxRecord}
}

func TestWhatIsPutIsTaken(t *testing.T) {
	for _, n := range sizes() {
		p := some(n)
		b, e := Put(p)
		if e != api.OK || !bytes.Equal(b, plain(p)) {
			t.Fatalf("Put of %d bytes is not as the promise says it: %d bytes, %d", n, len(b), e)
		}
		taken(t, "what was put", b, p)
		scanned(t, "what was put", b, p)
	}
	for x := range 256 {
		p := bytes.Repeat([]byte{byte(x)}, 1+x%5)
		b, _ := Put(p)
		if !bytes.Equal(b, plain(p)) {
			t.Errorf("Put of bytes %d is not as the promise says it", x)
		}
		taken(t, "bytes of one kind", b, p)
	}
}

func TestPutOfTooMuch(t *testing.T) {
	for _, n := range []int{api.MaxRecord + 1, api.MaxRecord + 2, 2 * api.MaxRecord, 1 << 24, 1<<24 + 1} {
		if b, e := Put(make([]byte, n)); e != api.ErrArg || len(b) != 0 {
			t.Errorf("Put of %d bytes: got %d bytes, %d, want none, ErrArg", n, len(b), e)
		}
	}
}

func TestFewerThanEight(t *testing.T) {
	faulty(t, "nil", nil, api.ErrShort)
	for n := range 8 {
		faulty(t, "zeros", make([]byte, n), api.ErrShort)
		faulty(t, "a record of nothing, cut", plain(nil)[:n], api.ErrShort)
		// Too long a length is not looked at as long as the head is not whole.
		faulty(t, "a length above MaxRecord", bytes.Repeat([]byte{0xff}, n), api.ErrShort)
	}
}

func TestLengthsAboveTheGreatest(t *testing.T) {
	for _, n := range []int{api.MaxRecord + 1, api.MaxRecord + 2, api.MaxRecord + 256, 2 * api.MaxRecord, 1 << 24, 1<<31 - 1, 1 << 31, 1<<32 - 8, 1<<32 - 1} {
		faulty(t, "a head alone", append(four(n), 0, 0, 0, 0), api.ErrForm)
		faulty(t, "a head and more", append(four(n), some(40)...), api.ErrForm)
	}
	for _, n := range []int{api.MaxRecord + 1, 2 * api.MaxRecord} {
		b := plain(some(n))
		faulty(t, "one that would be whole", b, api.ErrForm)
		scanned(t, "one that would be whole", b)
	}
	faulty(t, "the greatest length, alone", append(four(api.MaxRecord), 0, 0, 0, 0), api.ErrShort)
}

func TestCutAtEachPlace(t *testing.T) {
	for _, n := range []int{0, 1, 2, 3, 9, 300} {
		b := plain(some(n))
		wrong := bytes.Clone(b)
		wrong[4] ^= 1
		for i := range b {
			faulty(t, "a record, cut", b[:i], api.ErrShort)
			faulty(t, "a record, cut, without room behind it", bytes.Clone(b[:i]), api.ErrShort)
			faulty(t, "a record with another sum, cut", wrong[:i], api.ErrShort)
			scanned(t, "a record, cut", b[:i])
		}
	}
	b := plain(some(api.MaxRecord))
	for i := 0; i < len(b); i += 4099 {
		faulty(t, "the greatest record, cut", b[:i], api.ErrShort)
	}
	faulty(t, "the greatest record, one byte short", b[:len(b)-1], api.ErrShort)
}

func TestAnotherSum(t *testing.T) {
	for _, n := range []int{0, 1, 5, 40} {
		b := plain(some(n))
		for i := 4 * 8; i < 8*len(b); i++ {
			c := bytes.Clone(b)
			c[i/8] ^= 1 << (i % 8)
			faulty(t, "a record with a bit turned", c, api.ErrSum)
			scanned(t, "a record with a bit turned", c)
		}
	}
	b := plain(some(api.MaxRecord))
	b[len(b)-1] ^= 0x80
	faulty(t, "the greatest record with a bit turned", b, api.ErrSum)
	faulty(t, "eight zeros", make([]byte, 8), api.ErrSum)
	p := []byte("abc")
	faulty(t, "a sum of the payload alone", slices.Concat(four(3), four(int(crc32.ChecksumIEEE(p))), p), api.ErrSum)
	sum := four(int(crc32.ChecksumIEEE(slices.Concat(four(3), p))))
	slices.Reverse(sum)
	faulty(t, "a sum the other way round", slices.Concat(four(3), sum, p), api.ErrSum)
}

// TestAnotherLength: the sum goes over the length, too.
func TestAnotherLength(t *testing.T) {
	b := plain(make([]byte, 20))
	for n := range 20 {
		copy(b, four(n))
		faulty(t, "a record with a lower length", b, api.ErrSum)
	}
	b = append(b, make([]byte, 20)...)
	for n := 21; n <= 40; n++ {
		copy(b, four(n))
		faulty(t, "a record with a higher length", b, api.ErrSum)
	}
	copy(b, four(41))
	faulty(t, "a record with a length above what is there", b, api.ErrShort)
}

func TestBytesBehind(t *testing.T) {
	for _, n := range []int{0, 1, 3, 300} {
		p := some(n)
		for _, more := range [][]byte{{0}, {0xff}, make([]byte, 8), bytes.Repeat([]byte{0xff}, 8), plain(nil), plain([]byte("next"))} {
			taken(t, "a record and more", append(plain(p), more...), p)
		}
	}
}

func TestScanOfNothing(t *testing.T) {
	scanned(t, "nil", nil)
	scanned(t, "empty", []byte{})
	for n := range 8 {
		scanned(t, "less than a head", make([]byte, n))
	}
	scanned(t, "eight zeros", make([]byte, 8))
	scanned(t, "too long a length", bytes.Repeat([]byte{0xff}, 100))
}

// several is what some records hold, the same and empty ones among them.
func several() [][]byte {
	return [][]byte{[]byte("one"), nil, nil, []byte("three"), some(300), []byte("one"), {0}, nil}
}

// row is records one behind the other.
func row(l [][]byte) []byte {
	var b []byte
	for _, p := range l {
		b = append(b, plain(p)...)
	}
	return b
}

func TestScanOfSeveral(t *testing.T) {
	l := several()
	for n := range len(l) + 1 {
		scanned(t, "several", row(l[:n]), l[:n]...)
	}
	great := [][]byte{some(api.MaxRecord), []byte("a"), some(api.MaxRecord)}
	scanned(t, "the greatest", row(great), great...)
	many := slices.Repeat([][]byte{nil, {1}}, 5000)
	scanned(t, "many", row(many), many...)
}

func TestScanStopsWhereTakeTellsAnError(t *testing.T) {
	l := several()
	wrong := plain([]byte("wrong"))
	wrong[9] ^= 1
	for n := range len(l) + 1 {
		for what, bad := range map[string][]byte{
			"ErrShort in the head": {0, 0, 0},
			"ErrForm":              append(four(api.MaxRecord+1), 1, 2, 3, 4),
			"ErrSum":               wrong,
			"zeros":                make([]byte, 8),
		} {
			b := append(row(l[:n]), bad...)
			scanned(t, what, b, l[:n]...)
			if len(bad) >= 8 {
				scanned(t, what+", and right ones behind it", append(b, row(l)...), l[:n]...)
			}
		}
	}
}

func TestScanOfWhatIsCut(t *testing.T) {
	l := several()
	b := row(l)
	whole, end := 0, 8+len(l[0])
	for i := range b {
		if i == end {
			whole++
			end += 8 + len(l[whole])
		}
		scanned(t, "several, cut", b[:i], l[:whole]...)
	}
}

// TestScanOfWhatIsTurned: of records with one byte changed those ahead of it are left, whatever it is.
func TestScanOfWhatIsTurned(t *testing.T) {
	l := [][]byte{[]byte("one"), nil, []byte("three")}
	b := row(l)
	for i := range b {
		ahead := l[:1]
		if i < 11 {
			ahead = nil
		} else if i >= 19 {
			ahead = l[:2]
		}
		for x := 1; x < 256; x++ {
			c := bytes.Clone(b)
			c[i] ^= byte(x)
			scanned(t, "several, with a byte turned", c, ahead...)
		}
	}
}

func TestHandedInIsNotChanged(t *testing.T) {
	room := append(row(several()), some(32)...)
	kept := bytes.Clone(room)
	Put(room[:5])
	Put(room[3:3])
	Take(room[:11])
	Take(room[:10])
	Scan(room[:40])
	Scan(room)
	if !bytes.Equal(room, kept) {
		t.Error("bytes were changed")
	}
}

// TestPutIsNewMemory: what is written into p, or into the record, is not seen in the other one.
func TestPutIsNewMemory(t *testing.T) {
	p := some(30)
	b, _ := Put(p)
	c, _ := Put(p)
	clear(p)
	if !bytes.Equal(b, plain(some(30))) {
		t.Error("the record hangs on what was handed in")
	}
	clear(b[:cap(b)])
	if !bytes.Equal(c, plain(some(30))) {
		t.Error("two records share memory")
	}
}

func TestTakenIsNewMemory(t *testing.T) {
	b := plain(some(30))
	p, _, _ := Take(b)
	clear(p[:cap(p)])
	if !bytes.Equal(b, plain(some(30))) {
		t.Error("who writes into what was taken changes the record")
	}
	p, _, _ = Take(b)
	clear(b)
	if !bytes.Equal(p, some(30)) {
		t.Error("what was taken hangs on the record")
	}
}

func TestScannedIsNewMemory(t *testing.T) {
	want := several()
	b := row(want)
	l, _ := Scan(b)
	clear(b)
	if !slices.EqualFunc(l, want, bytes.Equal) {
		t.Error("what was scanned hangs on the bytes")
	}
	for i := range l {
		clear(l[i][:cap(l[i])])
		if !slices.EqualFunc(l[i+1:], want[i+1:], bytes.Equal) {
			t.Errorf("list %d shares memory with one behind it", i)
		}
	}
}

func TestScannedDoesNotTouchTheBytes(t *testing.T) {
	b := row(several())
	l, _ := Scan(b)
	for _, p := range l {
		clear(p[:cap(p)])
	}
	scanned(t, "what was written into", b, several()...)
}

// FuzzTake holds Take and Scan against P3.2 on bytes of any kind.
func FuzzTake(f *testing.F) {
	f.Add([]byte(nil))
	f.Add(row(several()))
	f.Add(append(four(api.MaxRecord+1), 0, 0, 0, 0))
	f.Fuzz(func(t *testing.T, b []byte) {
		var want [][]byte
		at := 0
		for {
			p, n, e := Take(b[at:])
			if e != api.OK {
				faulty(t, "what is no record", b[at:], e)
				break
			}
			if !bytes.Equal(b[at:at+n], plain(p)) {
				t.Fatal("what is taken is not what is put")
			}
			want = append(want, p)
			at += n
		}
		scanned(t, "any bytes", b, want...)
	})
}
