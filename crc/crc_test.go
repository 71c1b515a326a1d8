package crc

import (
	"bytes"
	"hash/crc32"
	"math/bits"
	"strconv"
	"testing"
)

// plain is P1.1 word by word, over one row of bytes.
func plain(start uint32, b []byte) uint32 {
	c := start
	for _, x := range b {
		c ^= uint32(x)
		for range 8 {
			if c%2 == 1 {
				c = c/2 ^ 0xEDB88320
			} else {
				c = c / 2
			}
		}
	}
	return ^c
}

// some is n bytes that look like none in particular, the same at each call.
func some(n int) []byte {
	b := make([]byte, n)
	x := uint32(n) + 1
	for i := range b {
		x = x*1664525 + 1013904223
		b[i] = byte(x >> 24)
	}
	return b
}

func hold(t *testing.T, what string, got, want uint32) {
	t.Helper()
	if got != want {
		t.Errorf("%s: got %#08x, want %#08x", what, got, want)
	}
}

func TestSumOfKnownRows(t *testing.T) {
	for _, c := range []struct {
		text string
		want uint32
	}{
		{"", 0},
		{"\x00", 0xD202EF8D},
		{"\x00\x00\x00\x00", 0x2144DF1C},
		{"\xff", 0xFF000000},
		{"\xff\xff\xff\xff", 0xFFFFFFFF},
		{"a", 0xE8B7BE43},
		{"abc", 0x352441C2},
		{"123456789", 0xCBF43926},
		{"The quick brown fox jumps over the lazy dog", 0x414FA339},
	} {
		hold(t, "Sum of "+strconv.Quote(c.text), Sum([]byte(c.text)), c.want)
		hold(t, "More of "+strconv.Quote(c.text), More(0, []byte(c.text)), c.want)
	}
}

func TestSumOfNothing(t *testing.T) {
	hold(t, "no parts", Sum(), 0)
	hold(t, "a nil list of parts", Sum([][]byte(nil)...), 0)
	hold(t, "a nil part", Sum(nil), 0)
	hold(t, "empty parts", Sum([]byte{}, nil, []byte{}), 0)
}

func TestSumIsAsWritten(t *testing.T) {
	for x := range 256 {
		b := []byte{byte(x)}
		hold(t, "a single byte", Sum(b), plain(1<<32-1, b))
	}
	for n := range 300 {
		b := some(n)
		hold(t, "as the promise says it", Sum(b), plain(1<<32-1, b))
		hold(t, "as the library has it", Sum(b), crc32.ChecksumIEEE(b))
	}
}

func TestPartingDoesNotCount(t *testing.T) {
	b := some(24)
	want := Sum(b)
	for i := 0; i <= len(b); i++ {
		for j := i; j <= len(b); j++ {
			hold(t, "three parts", Sum(b[:i], b[i:j], b[j:]), want)
			hold(t, "with empty ones", Sum(nil, b[:i], []byte{}, b[i:j], nil, b[j:], nil), want)
		}
	}
	var single [][]byte
	for i := range b {
		single = append(single, b[i:i+1])
	}
	hold(t, "a part a byte", Sum(single...), want)
}

func TestOrderOfPartsCounts(t *testing.T) {
	if Sum([]byte("ab"), []byte("c")) == Sum([]byte("c"), []byte("ab")) {
		t.Error("parts the other way round have the same sum")
	}
}

func TestMoreGoesOn(t *testing.T) {
	b := some(40)
	for i := 0; i <= len(b); i++ {
		hold(t, "behind the first bytes", More(Sum(b[:i]), b[i:]), Sum(b))
	}
	hold(t, "behind parts", More(Sum(b[:7], b[7:9]), b[9:]), Sum(b))
}

func TestMoreOfNothing(t *testing.T) {
	for _, s := range []uint32{0, 1, 0x352441C2, 0x80000000, 1<<32 - 1} {
		hold(t, "nil", More(s, nil), s)
		hold(t, "empty", More(s, []byte{}), s)
	}
}

// TestMoreFromAnyNumber: s need not be a sum of anything that was summed.
func TestMoreFromAnyNumber(t *testing.T) {
	for _, s := range []uint32{0, 1, 0xDEADBEEF, 0x7FFFFFFF, 1<<32 - 1} {
		for n := range 20 {
			hold(t, "from a number", More(s, some(n)), plain(^s, some(n)))
		}
	}
}

func TestHandedInIsNotChanged(t *testing.T) {
	room := some(64)
	kept := bytes.Clone(room)
	parts := [][]byte{room[:5], room[5:9], room[9:9]}
	Sum(parts[:2]...)
	More(7, room[3:11])
	if !bytes.Equal(room, kept) {
		t.Error("bytes were changed")
	}
	if len(parts[0]) != 5 || len(parts[1]) != 4 || len(parts[2]) != 0 {
		t.Error("the list of parts was changed")
	}
}

// flip turns in a copy of b those bits that are set in by, the first of which lies at the bit at.
func flip(b []byte, at int, by uint32) []byte {
	c := bytes.Clone(b)
	for i := range 32 {
		if p := at + i; by>>i&1 == 1 && p < 8*len(c) {
			c[p/8] ^= 1 << (p % 8)
		}
	}
	return c
}

// reduce takes the leading bits of those that are kept out of v: what is left is 0 just where v is made up of them.
func reduce(kept []uint32, v uint32) uint32 {
	for v != 0 {
		k := kept[bits.Len32(v)-1]
		if k == 0 {
			break
		}
		v ^= k
	}
	return v
}

// TestBurstsOfAllKinds: sums of rows of one length differ by what the turned bits make up, each on its own. So no pattern of
// 32 bits in a row leaves the sum as it was just where what these bits make up is independent.
func TestBurstsOfAllKinds(t *testing.T) {
	for _, n := range []int{1, 2, 3, 4, 5, 9, 40} {
		b := some(n)
		s := Sum(b)
		for at := 0; at < 8*n; at++ {
			kept := make([]uint32, 32)
			for i := 0; i < 32 && at+i < 8*n; i++ {
				v := reduce(kept, Sum(flip(b, at, 1<<i))^s)
				if v == 0 {
					t.Fatalf("%d bytes: bits from %d up to %d: a burst that is not told", n, at, at+i)
				}
				kept[bits.Len32(v)-1] = v
			}
		}
	}
}

// TestBitsAreIndependent: what TestBurstsOfAllKinds leans on.
func TestBitsAreIndependent(t *testing.T) {
	b := some(16)
	s := Sum(b)
	for at := 0; at < 8*len(b); at++ {
		by := uint32(at)*2654435761 | 1
		var want uint32
		for i := range 32 {
			want ^= Sum(flip(b, at, by&(1<<i))) ^ s
		}
		hold(t, "bits together", Sum(flip(b, at, by))^s, want)
	}
}

func TestBurstsOfGivenKinds(t *testing.T) {
	for _, n := range []int{4, 7, 40, 1000} {
		b := some(n)
		s := Sum(b)
		for at := 0; at+32 <= 8*n; at += 1 + n/40 {
			for _, by := range []uint32{1, 1 << 31, 1<<31 | 1, 1<<32 - 1, 0xEDB88320, 0x80000001, 0x55555555} {
				if Sum(flip(b, at, by)) == s {
					t.Fatalf("%d bytes, at %d, by %#x: the same sum", n, at, by)
				}
			}
		}
	}
}

func TestTwoBytesAreToldApart(t *testing.T) {
	seen := make(map[uint32]int, 1<<16)
	for x := range 1 << 16 {
		s := Sum([]byte{byte(x), byte(x >> 8)})
		if y, ok := seen[s]; ok {
			t.Fatalf("%#04x and %#04x have the same sum", x, y)
		}
		seen[s] = x
	}
}

// TestBurstBehindSplit: a burst that lies over the border of two parts is told, too.
func TestBurstBehindSplit(t *testing.T) {
	b := some(12)
	for at := 0; at+32 <= 8*len(b); at++ {
		c := flip(b, at, 0x80000001)
		if Sum(b[:6], b[6:]) == Sum(c[:6], c[6:]) {
			t.Fatalf("at %d: the same sum", at)
		}
	}
}

func BenchmarkSum(b *testing.B) {
	x := some(1 << 16)
	b.SetBytes(int64(len(x)))
	for b.Loop() {
		Sum(x)
	}
}
