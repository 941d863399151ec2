package jpage

import (
	"math"
	"strings"
	"testing"

	"annexe/api"
)

// four returns a number in four bytes, by the words of 2.3.
func four(n uint32) string {
	return string([]byte{byte(n >> 24), byte(n >> 16), byte(n >> 8), byte(n)})
}

// size returns the absolute value of a nonce; that of the least int is not an int.
func size(nonce int) uint64 {
	if nonce < 0 {
		return -uint64(nonce)
	}
	return uint64(nonce)
}

// check returns the checksum with a nonce by the words of chapter 3.
func check(nonce int, s string) uint32 {
	a, b := uint32(size(nonce)%65521), uint32(0)
	for i := range len(s) {
		a = (a + uint32(s[i])) % 65521
		b = (b + a) % 65521
	}
	return 65536*b + a
}

// spell returns the encoding of any number of four bytes with 512 bytes,
// whether or not a page may have that number.
func spell(page uint32, data string, nonce int) string {
	s := four(page) + data
	return s + four(check(nonce, s))
}

// put returns s with other bytes from a place on.
func put(s string, at int, other string) string { return s[:at] + other + s[at+len(other):] }

// rising returns n bytes, each one more than the byte before it, from a first one on.
func rising(n int, first byte) string {
	b := make([]byte, n)
	for i := range b {
		b[i] = first + byte(i)
	}
	return string(b)
}

// contents holds the bytes of pages.
func contents() []string {
	zero, ones := strings.Repeat("\x00", 512), strings.Repeat("\xff", 512)
	return []string{
		zero,
		ones,
		strings.Repeat("a", 512),
		strings.Repeat("é", 256),
		rising(512, 0),
		rising(512, 100),
		put(zero, 0, "\x01"),
		put(zero, 511, "\x01"),
		put(ones, 0, "\x00"),
		put(ones, 511, "\x00"),
		put(zero, 0, spell(7, rising(512, 9), 3)[:512]),
	}
}

// pages holds numbers that a page may have.
func pages() []int { return []int{1, 2, 7, 127, 128, 255, 256, 257, 511, 512, 1000, 1024, 1999, 2000} }

// nonces holds nonces of any kind, with the ends of the range of an int.
func nonces() []int {
	return []int{
		0, 1, 2, 3, 7, 255, 256, 65520, 65521, 65522, 65535, 65536, 2 * 65521, 1<<31 - 1, 1 << 31, 1<<32 - 1, 1 << 32, 1<<32 + 1,
		-1, -2, -3, -7, -65520, -65521, -65522, -65536, -1 << 31, -1 << 32,
		math.MaxInt64, math.MaxInt64 - 1, math.MinInt64, math.MinInt64 + 1,
	}
}

// wrong holds numbers that no page may have, also those that might be valid if
// they were cut to fewer bits.
func wrong() []int {
	return []int{
		math.MinInt64, math.MinInt64 + 1, -1 << 32, -1<<32 + 1, -1 << 31, -65535, -2001, -2000, -2, -1, 0,
		2001, 2002, 2048, 4000, 65535, 65536, 65537, 1 << 24, 1<<31 - 1, 1 << 31, 1<<32 - 1, 1 << 32, 1<<32 + 1, 1<<32 + 2000, 1<<62 + 1, math.MaxInt64 - 1, math.MaxInt64,
	}
}

// writes requires that Write returns an encoding.
func writes(t *testing.T, page int, data string, nonce int, want string) {
	t.Helper()
	if s, err := Write(page, data, nonce); s != want || err != api.OK {
		t.Errorf("Write(%d, %.20x.., %d) = %x, error %d, want %x", page, data, nonce, s, err, want)
	}
}

// refuses requires that Write returns an error, and nothing beside it.
func refuses(t *testing.T, page int, data string, nonce int, want api.Errno) {
	t.Helper()
	if s, err := Write(page, data, nonce); s != "" || err != want {
		t.Errorf("Write(%d, %d bytes, %d) = %d bytes, error %d, want error %d", page, len(data), nonce, len(s), err, want)
	}
}

// reads requires that Read returns a page.
func reads(t *testing.T, s string, nonce int, page int, data string) {
	t.Helper()
	if n, d, err := Read(s, nonce); n != page || d != data || err != api.OK {
		t.Errorf("Read(%d bytes, %.20x.., %d) = %d, %.20x.., error %d, want %d, %.20x..", len(s), s, nonce, n, d, err, page, data)
	}
}

// fails requires that Read returns an error, and nothing beside it.
func fails(t *testing.T, s string, nonce int, want api.Errno) {
	t.Helper()
	if n, d, err := Read(s, nonce); n != 0 || d != "" || err != want {
		t.Errorf("Read(%d bytes, %.20x.., %d) = %d, %d bytes, error %d, want error %d", len(s), s, nonce, n, len(d), err, want)
	}
}

// Promise 9.1: the very bytes of encodings, and Read of them; page 1 with zero
// bytes is the chapter's example.
func TestBytes(t *testing.T) {
	if Size != 520 {
		t.Errorf("Size = %d", Size)
	}
	zero, ones := strings.Repeat("\x00", 512), strings.Repeat("\xff", 512)
	for _, c := range []struct {
		page  int
		data  string
		nonce int
		want  string
	}{
		{1, zero, 0, "\x00\x00\x00\x01" + zero + "\x02\x01\x00\x01"},
		{1, zero, 7, "\x00\x00\x00\x01" + zero + "\x10\x1d\x00\x08"},
		{1, zero, -7, "\x00\x00\x00\x01" + zero + "\x10\x1d\x00\x08"},
		{1, zero, 65520, "\x00\x00\x00\x01" + zero + "\xff\xee\x00\x00"},
		{1, zero, 65521, "\x00\x00\x00\x01" + zero + "\x02\x01\x00\x01"},
		{2, zero, 1, "\x00\x00\x00\x02" + zero + "\x06\x06\x00\x03"},
		{258, rising(512, 0), 77, "\x00\x00\x01\x02" + rising(512, 0) + "\x82\xb3\xff\x50"},
		{1999, put(zero, 511, "\x01"), math.MaxInt64, "\x00\x00\x07\xcf" + zero[1:] + "\x01" + "\x03\x23\xe3\xaf"},
		{2000, ones, 1<<32 - 1, "\x00\x00\x07\xd0" + ones + "\x8f\x7c\xff\xc6"},
		{2000, ones, math.MinInt64, "\x00\x00\x07\xd0" + ones + "\x24\x18\xe1\xce"},
	} {
		writes(t, c.page, c.data, c.nonce, c.want)
		reads(t, c.want, c.nonce, c.page, c.data)
	}
}

// Promise 9.1: Write and Read against the definition of an encoding.
func TestDefinition(t *testing.T) {
	for _, nonce := range nonces() {
		for _, data := range contents() {
			for _, page := range pages() {
				s := spell(uint32(page), data, nonce)
				writes(t, page, data, nonce, s)
				reads(t, s, nonce, page, data)
			}
		}
	}
}

// Promise 9.1: every number that a page may have, and those just outside.
func TestEveryPage(t *testing.T) {
	data := rising(512, 50)
	for page := -3; page <= 2003; page++ {
		if page < 1 || page > 2000 {
			refuses(t, page, data, 3, api.ErrRange)
			fails(t, spell(uint32(page), data, 3), 3, api.ErrRange)
			continue
		}
		writes(t, page, data, 3, spell(uint32(page), data, 3))
		reads(t, spell(uint32(page), data, 3), 3, page, data)
	}
}

// Promise 9.1: numbers that no page may have; they come before the length of
// the data, and the nonce does not matter.
func TestWriteRange(t *testing.T) {
	for _, page := range wrong() {
		for _, n := range []int{0, 1, 511, 512, 513, 520, 1024} {
			refuses(t, page, rising(n, 1), 3, api.ErrRange)
		}
		for _, nonce := range nonces() {
			refuses(t, page, rising(512, 1), nonce, api.ErrRange)
			refuses(t, page, "", nonce, api.ErrRange)
		}
	}
}

// Promise 9.1: data of any length but that of a page.
func TestWriteLong(t *testing.T) {
	for _, page := range []int{1, 2, 1999, 2000} {
		for n := range 1100 {
			if n != 512 {
				refuses(t, page, rising(n, 0), 3, api.ErrLong)
			}
		}
		refuses(t, page, strings.Repeat("\x00", 512*3), 3, api.ErrLong)
		refuses(t, page, strings.Repeat("a", 512<<8), 3, api.ErrLong)
		// Bytes count, not runes: 512 runes of two bytes are too long.
		refuses(t, page, strings.Repeat("é", 512), 3, api.ErrLong)
		for _, nonce := range nonces() {
			refuses(t, page, "", nonce, api.ErrLong)
			refuses(t, page, rising(511, 0), nonce, api.ErrLong)
			refuses(t, page, rising(513, 0), nonce, api.ErrLong)
		}
	}
}

// Promise 9.1: fewer than 520 bytes, whatever they are.
func TestReadShort(t *testing.T) {
	s := spell(7, rising(512, 9), 3)
	for k := range 520 {
		fails(t, s[:k], 3, api.ErrShort)
		fails(t, s[520-k:], 3, api.ErrShort)
		fails(t, strings.Repeat("\x00", k), 0, api.ErrShort)
		fails(t, strings.Repeat("\xff", k), 3, api.ErrShort)
	}
	for _, nonce := range nonces() {
		fails(t, "", nonce, api.ErrShort)
		fails(t, s[:519], nonce, api.ErrShort)
	}
	// A right checksum of less than a page does not help.
	short := s[:515] + four(check(3, s[:515]))
	fails(t, short, 3, api.ErrShort)
	reads(t, s, 3, 7, rising(512, 9))
	reads(t, s+"\x00", 3, 7, rising(512, 9))
}

// Promise 9.1: what follows an encoding does not matter, but what comes before it does.
func TestReadWithMore(t *testing.T) {
	data := rising(512, 9)
	other := spell(8, rising(512, 1), 4)
	for _, page := range []int{1, 7, 2000} {
		for _, nonce := range nonces() {
			s := spell(uint32(page), data, nonce)
			for _, more := range []string{"\x00", "\xff", "more", s, other, other[:519], strings.Repeat("\x00", 520), strings.Repeat("\xff", 5000)} {
				reads(t, s+more, nonce, page, data)
			}
			for _, before := range []string{"\x01", "x", "\x00\x00\x00\x00"} {
				fails(t, before+s, nonce, api.ErrSum)
				fails(t, before+s[:520-len(before)], nonce, api.ErrSum)
			}
		}
	}
}

// Promise 9.1: another nonce than that of the encoding; the checksum knows a
// nonce only by its absolute value modulo 65521, so that some are not others.
func TestReadOtherNonce(t *testing.T) {
	for _, data := range contents() {
		for _, written := range nonces() {
			s := spell(7, data, written)
			for _, nonce := range nonces() {
				if size(nonce)%65521 == size(written)%65521 {
					reads(t, s, nonce, 7, data)
				} else {
					fails(t, s, nonce, api.ErrSum)
				}
			}
		}
	}
}

// Promise 9.1: checksums of other bytes, in another order, or with another nonce.
func TestReadOtherSums(t *testing.T) {
	s := spell(7, rising(512, 9), 3)
	right := check(3, s[:516])
	for _, sum := range []uint32{
		0, 1, math.MaxUint32,
		check(0, s[:516]), check(1, s[:516]), check(2, s[:516]), check(4, s[:516]), check(7, s[:516]),
		check(3, s[4:516]), check(3, s[:512]), check(3, s[:515]), check(3, s[:4]), check(3, s[:516]+"\x00"), check(3, s), check(3, s[4:516]+s[:4]), check(3, ""),
		right + 1, right - 1, right ^ 1<<31, right + 65521, right - 65521, right + 65536, right<<16 | right>>16, right<<8 | right>>24,
	} {
		fails(t, put(s, 516, four(sum)), 3, api.ErrSum)
		fails(t, put(s, 516, four(sum))+s, 3, api.ErrSum)
	}
	// Zero bytes have the checksum 0 with the nonce 0, and are then page 0.
	fails(t, strings.Repeat("\x00", 520), 0, api.ErrRange)
	fails(t, strings.Repeat("\x00", 520), 1, api.ErrSum)
}

// Promise 9.1: parts of the encodings of different pages do not make one.
func TestReadMixed(t *testing.T) {
	s, o := spell(7, rising(512, 9), 3), spell(8, rising(512, 10), 3)
	for _, at := range []int{4, 100, 256, 515, 516} {
		fails(t, s[:at]+o[at:], 3, api.ErrSum)
		fails(t, o[:at]+s[at:], 3, api.ErrSum)
	}
	fails(t, s[:4]+o[4:516]+s[516:], 3, api.ErrSum)
	// Bytes that change places have the same sum, but not the same checksum.
	fails(t, s[:3]+s[4:5]+s[3:4]+s[5:], 3, api.ErrSum)
	fails(t, s[:100]+s[101:102]+s[100:101]+s[102:], 3, api.ErrSum)
}

// Promise 9.1: the checksum is right, and the number is not that of a page.
func TestReadRange(t *testing.T) {
	for _, page := range []uint32{0, 2001, 2002, 2048, 4000, 65535, 65536, 65537, 1 << 24, 0xd0070000, 1<<31 - 1, 1 << 31, 1<<31 + 1, math.MaxUint32 - 1, math.MaxUint32} {
		for _, data := range contents() {
			for _, nonce := range nonces() {
				fails(t, spell(page, data, nonce), nonce, api.ErrRange)
			}
			fails(t, spell(page, data, 3)+"more", 3, api.ErrRange)
		}
	}
}

// Promise 9.1, P1: several things are wrong, and the error that is named first is returned.
func TestReadFirstError(t *testing.T) {
	data := rising(512, 9)
	for _, page := range []uint32{0, 2001, math.MaxUint32} {
		s := spell(page, data, 3)
		fails(t, s, 3, api.ErrRange)
		fails(t, s, 4, api.ErrSum)
		fails(t, s[:519], 3, api.ErrShort)
		fails(t, s[:519], 4, api.ErrShort)
		for _, at := range []int{0, 3, 4, 515, 516, 519} {
			changed := put(s, at, string([]byte{s[at] ^ 1}))
			fails(t, changed, 3, api.ErrSum)
			fails(t, changed+s, 3, api.ErrSum)
			fails(t, changed[:519], 3, api.ErrShort)
		}
	}
	// The number becomes valid, but the checksum is still that of page 0.
	fails(t, put(spell(0, data, 3), 3, "\x01"), 3, api.ErrSum)
	fails(t, put(spell(1, data, 3), 3, "\x00"), 3, api.ErrSum)
}

// Promise 9.2: Read inverts Write, and different pages have different encodings.
func TestReadInvertsWrite(t *testing.T) {
	type page struct {
		number int
		data   string
	}
	for _, nonce := range nonces() {
		seen := map[string]page{}
		for _, number := range pages() {
			for _, data := range contents() {
				s, err := Write(number, data, nonce)
				if err != api.OK || len(s) != Size {
					t.Errorf("Write(%d, %.20x.., %d) = %d bytes, error %d", number, data, nonce, len(s), err)
				}
				reads(t, s, nonce, number, data)
				if other, ok := seen[s]; ok {
					t.Errorf("nonce %d: page %d %.20x.. and page %d %.20x.. have one encoding", nonce, other.number, other.data, number, data)
				}
				seen[s] = page{number, data}
			}
		}
	}
}

// Promise 9.2: any byte of an encoding, changed to any other one.
func TestOneChangedByte(t *testing.T) {
	for _, c := range []struct {
		page  int
		data  string
		nonce int
	}{
		{1, strings.Repeat("\x00", 512), 0},
		{7, rising(512, 9), -3},
		{2000, strings.Repeat("\xff", 512), math.MinInt64},
	} {
		s, err := Write(c.page, c.data, c.nonce)
		if err != api.OK || len(s) != 520 {
			t.Fatalf("Write(%d, %.20x.., %d) = %d bytes, error %d", c.page, c.data, c.nonce, len(s), err)
		}
		for at := range len(s) {
			for b := range 256 {
				if byte(b) != s[at] {
					fails(t, put(s, at, string([]byte{byte(b)})), c.nonce, api.ErrSum)
				}
			}
		}
	}
}

// Promise 9.2: one bit of an encoding, for each kind of nonce and data.
func TestOneChangedBit(t *testing.T) {
	for _, nonce := range nonces() {
		for i, data := range contents() {
			s, _ := Write(1+i, data, nonce)
			for _, at := range []int{0, 1, 2, 3, 4, 5, 100, 256, 514, 515, 516, 517, 518, 519} {
				for bit := range 8 {
					fails(t, put(s, at, string([]byte{s[at] ^ 1<<bit})), nonce, api.ErrSum)
				}
			}
		}
	}
}

// Promise 9.1, P1: a page that was written over zero bytes, and of which a
// proper prefix has survived; with the nonce 0 the zero bytes have their own
// checksum, but they are page 0.
func TestTorn(t *testing.T) {
	zero := strings.Repeat("\x00", 520)
	for _, c := range []struct {
		page  int
		data  string
		nonce int
	}{
		{1, rising(512, 1), 3},
		{256, strings.Repeat("a", 512), 0},
		{2000, strings.Repeat("\xff", 512), 77},
	} {
		s := spell(uint32(c.page), c.data, c.nonce)
		for k := range 520 {
			torn, want := s[:k]+zero[k:], api.ErrSum
			if torn == zero && c.nonce == 0 {
				want = api.ErrRange
			}
			fails(t, torn, c.nonce, want)
			fails(t, torn+s, c.nonce, want)
		}
	}
}

// Promise 9.1, P1: bytes of any kind, with and without a checksum that is made for them.
func TestReadAnyBytes(t *testing.T) {
	x := uint32(1)
	for i := range 6000 {
		b := make([]byte, i%530)
		for j := range b {
			x = x*1664525 + 1013904223
			b[j] = byte(x >> 24)
		}
		s, nonce := string(b), int(x)-1<<31
		if len(s) < 520 {
			fails(t, s, nonce, api.ErrShort)
			continue
		}
		fails(t, s, nonce, api.ErrSum)
		fails(t, put(s, 516, four(check(nonce, s[:516]))), nonce, api.ErrRange)
		s = put(s, 0, four(x%2000+1))
		fails(t, s, nonce, api.ErrSum)
		reads(t, put(s, 516, four(check(nonce, s[:516]))), nonce, int(x%2000+1), s[4:516])
	}
}
