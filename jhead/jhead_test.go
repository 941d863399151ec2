package jhead

import (
	"math"
	"strings"
	"testing"

	"annexe/api"
)

// four returns a number in four bytes, by the words of 2.3.
func four(n uint32) string {
	return string([]byte{byte(n >> 24), byte(n >> 16), byte(n >> 8), byte(n)})
}

// check returns the checksum with a nonce by the words of chapter 3.
func check(nonce uint32, s string) uint32 {
	a, b := nonce%65521, uint32(0)
	for i := range len(s) {
		a = (a + uint32(s[i])) % 65521
		b = (b + a) % 65521
	}
	return 65536*b + a
}

// spell returns the encoding of any three numbers of four bytes, whether or
// not they are those of a valid header.
func spell(count, pages, nonce uint32) string {
	s := "annxjrnl" + four(count) + four(pages) + four(nonce)
	return s + four(check(7, s)) + "lnrjxnna"
}

func of(h Head) string { return spell(uint32(h.Count), uint32(h.Pages), uint32(h.Nonce)) }

// put returns s with other bytes from a place on.
func put(s string, at int, other string) string { return s[:at] + other + s[at+len(other):] }

// heads holds valid headers: every combination of numbers at the ends of
// their ranges and between them.
func heads() []Head {
	var all []Head
	counts := []int{0, 1, 2, 127, 128, 255, 256, 257, 1000, 1999, 2000}
	nonces := []int{0, 1, 7, 255, 256, 65520, 65521, 65535, 65536, 1 << 24, 0x01020304, 0x7fffffff, 1 << 31, 1<<32 - 2, 1<<32 - 1}
	for _, c := range counts {
		for _, p := range counts {
			for _, n := range nonces {
				all = append(all, Head{Count: c, Pages: p, Nonce: n})
			}
		}
	}
	return all
}

// reads requires that Read returns a header.
func reads(t *testing.T, s string, want Head) {
	t.Helper()
	if h, err := Read(s); h != want || err != api.OK {
		t.Errorf("Read(%.80x) = %+v, error %d, want %+v", s, h, err, want)
	}
}

// fails requires that Read returns an error, and nothing beside it.
func fails(t *testing.T, s string, want api.Errno) {
	t.Helper()
	if h, err := Read(s); h != (Head{}) || err != want {
		t.Errorf("Read(%.80x) = %+v, error %d, want error %d", s, h, err, want)
	}
}

// Promise 8.1: the very bytes of headers, and Read of them.
func TestBytes(t *testing.T) {
	if Size != 32 {
		t.Errorf("Size = %d", Size)
	}
	for _, c := range []struct {
		h    Head
		want string
	}{
		{Head{}, "annxjrnl\x00\x00\x00\x00\x00\x00\x00\x00\x00\x00\x00\x00\x38\xcc\x03\x72lnrjxnna"},
		{Head{Count: 3, Pages: 12, Nonce: 77}, "annxjrnl\x00\x00\x00\x03\x00\x00\x00\x0c\x00\x00\x00\x4d\x39\x70\x03\xcelnrjxnna"},
		{Head{Count: 1, Pages: 258, Nonce: 0x01020304}, "annxjrnl\x00\x00\x00\x01\x00\x00\x01\x02\x01\x02\x03\x04\x38\xf9\x03\x80lnrjxnna"},
		{Head{Count: 2000, Nonce: 1}, "annxjrnl\x00\x00\x07\xd0\x00\x00\x00\x00\x00\x00\x00\x01\x40\x63\x04\x4alnrjxnna"},
		{Head{Count: 2000, Pages: 2000, Nonce: 1<<32 - 1}, "annxjrnl\x00\x00\x07\xd0\x00\x00\x07\xd0\xff\xff\xff\xff\x4e\x92\x09\x1clnrjxnna"},
	} {
		if s, err := Write(c.h); s != c.want || err != api.OK {
			t.Errorf("Write(%+v) = %x, error %d, want %x", c.h, s, err, c.want)
		}
		reads(t, c.want, c.h)
	}
}

// Promise 8.1: Write against the definition of an encoding.
func TestWrite(t *testing.T) {
	for _, h := range heads() {
		if s, err := Write(h); s != of(h) || err != api.OK {
			t.Errorf("Write(%+v) = %x, error %d, want %x", h, s, err, of(h))
		}
	}
}

// Promise 8.1: each number at the ends of its range and beyond them, the
// others being any; one that is out of range is enough, also one that would
// be in range if it were cut to 32 bits.
func TestWriteRange(t *testing.T) {
	pages := []int{-1, 0, 1, 1999, 2000, 2001, math.MinInt64, math.MinInt64 + 1, math.MaxInt64, -2000, 65535, 65536, 1<<31 - 1, 1 << 31, 1<<32 - 1, 1 << 32, 1<<32 + 1, -1 << 32}
	nonces := []int{-1, 0, 1, 2000, 2001, 1<<31 - 1, 1 << 31, 1<<32 - 2, 1<<32 - 1, 1 << 32, 1<<32 + 1, 1 << 33, -1 << 31, -1 << 32, math.MinInt64, math.MaxInt64 - 1, math.MaxInt64}
	right := func(n, most int) bool { return n >= 0 && n <= most }
	for _, c := range pages {
		for _, p := range pages {
			for _, n := range nonces {
				h, want, wantErr := Head{Count: c, Pages: p, Nonce: n}, "", api.ErrRange
				if right(c, 2000) && right(p, 2000) && right(n, 4294967295) {
					want, wantErr = of(h), api.OK
				}
				if s, err := Write(h); s != want || err != wantErr {
					t.Errorf("Write(%+v) = %x, error %d, want %x, error %d", h, s, err, want, wantErr)
				}
			}
		}
	}
}

// Promise 8.1: fewer than 32 bytes, whatever they are.
func TestReadShort(t *testing.T) {
	s := of(Head{Count: 3, Pages: 12, Nonce: 77})
	bad := strings.Repeat("x", 32)
	zero := strings.Repeat("\x00", 32)
	for k := range 32 {
		fails(t, s[:k], api.ErrShort)
		fails(t, s[32-k:], api.ErrShort)
		fails(t, bad[:k], api.ErrShort)
		fails(t, zero[:k], api.ErrShort)
	}
	reads(t, s, Head{Count: 3, Pages: 12, Nonce: 77})
	reads(t, s+"\x00", Head{Count: 3, Pages: 12, Nonce: 77})
}

// Promise 8.1: what follows a header does not matter.
func TestReadWithMore(t *testing.T) {
	other := of(Head{Count: 9, Pages: 8, Nonce: 7})
	for _, h := range []Head{{}, {Count: 3, Pages: 12, Nonce: 77}, {Count: 2000, Pages: 2000, Nonce: 1<<32 - 1}} {
		for _, more := range []string{"", "\x00", "\xff", "l", "more", "lnrjxnna", other, other[:31], strings.Repeat("\x00", 520), strings.Repeat("\xff", 5000)} {
			reads(t, of(h)+more, h)
		}
		fails(t, "x"+of(h), api.ErrForm)
		fails(t, "\x00"+of(h), api.ErrForm)
		fails(t, of(h)[1:]+"a", api.ErrForm)
	}
}

// Promise 8.1: any byte of either mark, changed to any other one.
func TestReadMarks(t *testing.T) {
	for _, h := range []Head{{}, {Count: 3, Pages: 12, Nonce: 77}, {Count: 2000, Pages: 2000, Nonce: 1<<32 - 1}} {
		s := of(h)
		for _, start := range []int{0, 24} {
			for i := start; i < start+8; i++ {
				for c := range 256 {
					if byte(c) != s[i] {
						fails(t, put(s, i, string([]byte{byte(c)})), api.ErrForm)
					}
				}
			}
		}
		fails(t, put(s, 0, "lnrjxnna"), api.ErrForm)
		fails(t, put(s, 24, "annxjrnl"), api.ErrForm)
		fails(t, put(put(s, 0, "lnrjxnna"), 24, "annxjrnl"), api.ErrForm)
		fails(t, put(s, 0, "ANNXJRNL"), api.ErrForm)
		fails(t, put(s, 24, "LNRJXNNA"), api.ErrForm)
	}
}

// Promise 8.1: the first mark is covered by the checksum, but comes before
// it: one that is wrong is ErrForm even if the checksum is made for it.
func TestReadMarkWithItsSum(t *testing.T) {
	s := "annxjrnm" + four(1) + four(2) + four(3)
	fails(t, s+four(check(7, s))+"lnrjxnna", api.ErrForm)
}

// Promise 8.1: any byte of the numbers and of the checksum, changed to any other one.
func TestReadSum(t *testing.T) {
	for _, h := range []Head{{}, {Count: 3, Pages: 12, Nonce: 77}, {Count: 2000, Pages: 2000, Nonce: 1<<32 - 1}} {
		s := of(h)
		for i := 8; i < 24; i++ {
			for c := range 256 {
				if byte(c) != s[i] {
					fails(t, put(s, i, string([]byte{byte(c)})), api.ErrSum)
				}
			}
		}
	}
}

// Promise 8.1: checksums with another nonce, or of other bytes.
func TestReadOtherSums(t *testing.T) {
	s := of(Head{Count: 3, Pages: 12, Nonce: 77})
	for _, sum := range []uint32{
		0, 1, math.MaxUint32,
		check(0, s[:20]), check(1, s[:20]), check(6, s[:20]), check(8, s[:20]), check(77, s[:20]), check(70, s[:20]),
		check(7, s[8:20]), check(7, s[:8]), check(7, s[:16]), check(7, s[:19]), check(7, s[:24]), check(7, s[:20]+"\x00"), check(7, s[:20]+"lnrjxnna"), check(7, ""),
		check(7, s[:20]) + 1, check(7, s[:20]) - 1, check(7, s[:20]) ^ 1<<31,
		check(7, s[:20])<<16 | check(7, s[:20])>>16,
	} {
		fails(t, put(s, 20, four(sum)), api.ErrSum)
	}
	// The numbers of another header, and those of this one in another order.
	other := of(Head{Count: 4, Pages: 12, Nonce: 77})
	fails(t, put(s, 20, other[20:24]), api.ErrSum)
	fails(t, s[:8]+s[12:16]+s[8:12]+s[16:], api.ErrSum)
}

// Promise 8.1: the checksum is right, and Count or Pages is too great; any Nonce is valid.
func TestReadRange(t *testing.T) {
	great := []uint32{2001, 2002, 2048, 4000, 65535, 65536, 0xd0070000, 1<<31 - 1, 1 << 31, math.MaxUint32 - 1, math.MaxUint32}
	for _, n := range []uint32{0, 1, 77, 2001, 1 << 31, math.MaxUint32} {
		for _, g := range great {
			for _, small := range []uint32{0, 1, 2000} {
				fails(t, spell(g, small, n), api.ErrRange)
				fails(t, spell(small, g, n), api.ErrRange)
				fails(t, spell(g, small, n)+"more", api.ErrRange)
			}
			fails(t, spell(g, g, n), api.ErrRange)
		}
		reads(t, spell(2000, 2000, n), Head{Count: 2000, Pages: 2000, Nonce: int(n)})
		reads(t, spell(0, 0, n), Head{Nonce: int(n)})
	}
}

// Promise 8.1, P1: several things are wrong, and the error that is named first is returned.
func TestReadFirstError(t *testing.T) {
	right, great := of(Head{Count: 3, Pages: 12, Nonce: 77}), spell(2001, 12, 77)
	for _, s := range []string{right, great, put(right, 20, "\x00"), put(great, 20, "\x00")} {
		for _, at := range []int{0, 7, 24, 31} {
			fails(t, put(s, at, "X"), api.ErrForm)
			fails(t, put(s, at, "X")[:31], api.ErrShort)
			fails(t, put(s, at, "X")+right, api.ErrForm)
		}
	}
	fails(t, great[:31], api.ErrShort)
	fails(t, put(great, 20, "\x00"), api.ErrSum)
	fails(t, put(great, 8, "\xff"), api.ErrSum)
	fails(t, put(great, 19, "\xff"), api.ErrSum)
	fails(t, put(right, 8, "\xff"), api.ErrSum)
	fails(t, great, api.ErrRange)
}

// Promise 8.2: Read inverts Write, and different headers have different encodings.
func TestReadInvertsWrite(t *testing.T) {
	seen := map[string]Head{}
	for _, h := range heads() {
		s, err := Write(h)
		if err != api.OK || len(s) != Size {
			t.Errorf("Write(%+v) = %x, error %d", h, s, err)
		}
		reads(t, s, h)
		reads(t, s+s, h)
		if other, ok := seen[s]; ok {
			t.Errorf("%+v and %+v have the encoding %x", other, h, s)
		}
		seen[s] = h
	}
}

// Promise 8.2: bytes that Read accepts are those that Write returns.
func TestWriteInvertsRead(t *testing.T) {
	for count := range uint32(2003) {
		s := spell(count, 2002-count, 1<<32-1-count)
		h, err := Read(s)
		if err != api.OK {
			continue
		}
		if again, err := Write(h); again != s || err != api.OK {
			t.Errorf("Write(%+v) = %x, error %d, want %x", h, again, err, s)
		}
	}
}

// Promise 8.2: of a header that was written over zero bytes, any proper prefix
// has survived; the last byte of the last mark is missing, so that all of them are ErrForm.
func TestTorn(t *testing.T) {
	zero := strings.Repeat("\x00", 32)
	for _, h := range heads() {
		s, _ := Write(h)
		for k := range 32 {
			torn := s[:k] + zero[k:]
			fails(t, torn, api.ErrForm)
			fails(t, torn+zero, api.ErrForm)
			fails(t, torn[:31], api.ErrShort)
		}
	}
}

// Promise 8.1, P1: bytes of any kind, with and without the marks.
func TestReadAnyBytes(t *testing.T) {
	x := uint32(1)
	for i := range 20000 {
		b := make([]byte, i%70)
		for j := range b {
			x = x*1664525 + 1013904223
			b[j] = byte(x >> 24)
		}
		s, want := string(b), api.ErrShort
		if len(s) >= 32 {
			want = api.ErrForm
			if i%2 == 0 {
				s, want = put(put(s, 0, "annxjrnl"), 24, "lnrjxnna"), api.ErrSum
			}
			if i%4 == 0 {
				s, want = put(s, 20, four(check(7, s[:20]))), api.ErrRange
			}
		}
		fails(t, s, want)
	}
}
