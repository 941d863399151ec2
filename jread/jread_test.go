package jread

import (
	"slices"
	"strings"
	"testing"

	"annexe/api"
)

// four returns a number in four bytes, by the words of 2.3.
func four(n uint32) string {
	return string([]byte{byte(n >> 24), byte(n >> 16), byte(n >> 8), byte(n)})
}

// number returns the number in the first four bytes.
func number(s string) uint32 {
	return uint32(s[0])<<24 | uint32(s[1])<<16 | uint32(s[2])<<8 | uint32(s[3])
}

// check returns the checksum with a nonce by the words of chapter 3.
func check(nonce uint32, s string) uint32 {
	a, b := nonce%65521, uint32(0)
	for i := range len(s) {
		a = (a + uint32(s[i])) % 65521
		b = (b + a) % 65521
	}
	return 65536*b + a
}

// head returns a header of any numbers by the words of chapter 8, whether or
// not a header may have them.
func head(count, pages, nonce uint32) string {
	s := "annxjrnl" + four(count) + four(pages) + four(nonce)
	return s + four(check(7, s)) + "lnrjxnna"
}

// page returns a page of any number by the words of chapter 9, whether or not
// a page may have it.
func page(n uint32, data string, nonce uint32) string {
	s := four(n) + data
	return s + four(check(nonce, s))
}

// body returns the pages of a segment.
func body(l []Record, nonce uint32) string {
	var b strings.Builder
	for _, r := range l {
		b.WriteString(page(uint32(r.Page), r.Data, nonce))
	}
	return b.String()
}

// spell returns a segment.
func spell(l []Record, pages, nonce uint32) string {
	return head(uint32(len(l)), pages, nonce) + body(l, nonce)
}

// trailer returns a trailer with any path by the words of chapter 10.
func trailer(path string) string {
	s := "annxname" + four(uint32(len(path))) + path
	return s + four(check(13, s)) + "emanxnna"
}

// put returns s with other bytes from a place on.
func put(s string, at int, other string) string { return s[:at] + other + s[at+len(other):] }

// flip returns s with one byte changed.
func flip(s string, at int, by byte) string { return put(s, at, string([]byte{s[at] ^ by})) }

// pad returns a string with zero bytes, so that it has at least so many.
func pad(s string, size int) string { return s + zeros(size-len(s)) }

// zeros returns n zero bytes, or none.
func zeros(n int) string { return strings.Repeat("\x00", max(0, n)) }

// rising returns n bytes, each one more than the byte before it, from a first one on.
func rising(n int, start byte) string {
	b := make([]byte, n)
	for i := range b {
		b[i] = start + byte(i)
	}
	return string(b)
}

// data returns the bytes of a page, different for each k.
func data(k byte) string { return rising(512, k) }

// rec returns a record whose bytes are told by k.
func rec(page int, k byte) Record { return Record{page, data(k)} }

// recs returns records of some pages; the bytes of each are told by its number and by k.
func recs(k byte, pages ...int) []Record {
	var l []Record
	for _, n := range pages {
		l = append(l, rec(n, byte(n)*16+k))
	}
	return l
}

// join returns some lists of records as one.
func join(l ...[]Record) []Record { return slices.Concat(l...) }

// chance is a short rule that gives numbers without an order that is seen at once.
type chance uint64

func (c *chance) below(n int) int {
	*c = *c*6364136223846793005 + 1442695040888963407
	return int(uint64(*c) >> 33 % uint64(n))
}

// The ends of the ranges, and numbers just outside, also those that would be
// in range if they were cut to fewer bits.
func goodPages() []int  { return []int{0, 1, 2, 255, 256, 257, 1999, 2000} }
func badPages() []int   { return []int{-1 << 63, -1 << 32, -2000, -1, 2001, 65536, 1 << 32, 1<<63 - 1} }
func goodNonces() []int { return []int{0, 1, 77, 65520, 65521, 1 << 31, 1<<32 - 1} }
func badNonces() []int  { return []int{-1 << 63, -1 << 32, -77, -1, 1 << 32, 1<<32 + 77, 1<<63 - 1} }

// parts requires that Part returns a segment and leaves its argument as it was.
func parts(t *testing.T, l []Record, pages, nonce int) {
	t.Helper()
	before := slices.Clone(l)
	want := spell(l, uint32(pages), uint32(nonce))
	if s, err := Part(l, pages, nonce); s != want || err != api.OK {
		t.Errorf("Part of %d records, %d, %d = %d bytes, error %d, want %d bytes", len(l), pages, nonce, len(s), err, len(want))
	}
	if !slices.Equal(l, before) {
		t.Errorf("Part of %d records, %d, %d changed them", len(l), pages, nonce)
	}
}

// refuses requires that Part returns an error, and nothing beside it.
func refuses(t *testing.T, l []Record, pages, nonce int, want api.Errno) {
	t.Helper()
	before := slices.Clone(l)
	if s, err := Part(l, pages, nonce); s != "" || err != want {
		t.Errorf("Part of %d records, %d, %d = %d bytes, error %d, want error %d", len(l), pages, nonce, len(s), err, want)
	}
	if !slices.Equal(l, before) {
		t.Errorf("Part of %d records, %d, %d changed them", len(l), pages, nonce)
	}
}

// many returns n records of the pages from 1 on.
func many(n int) []Record {
	l := make([]Record, n)
	for i := range l {
		l[i] = rec(1+i%2000, byte(i*7))
	}
	return l
}

// Promise 11.1: the very bytes of segments.
func TestPartBytes(t *testing.T) {
	a, b, ones := strings.Repeat("a", 512), strings.Repeat("b", 512), strings.Repeat("\xff", 512)
	for _, c := range []struct {
		l            []Record
		pages, nonce int
		want         string
	}{
		{nil, 0, 0, "annxjrnl\x00\x00\x00\x00\x00\x00\x00\x00\x00\x00\x00\x00\x38\xcc\x03\x72lnrjxnna"},
		{[]Record{}, 4, 9, "annxjrnl\x00\x00\x00\x00\x00\x00\x00\x04\x00\x00\x00\x09\x38\xe9\x03\x7flnrjxnna"},
		{nil, 2000, 0, "annxjrnl\x00\x00\x00\x00\x00\x00\x07\xd0\x00\x00\x00\x00\x3d\x06\x04\x49lnrjxnna"},
		{
			[]Record{{3, a}, {1, b}}, 4, 9,
			"annxjrnl\x00\x00\x00\x02\x00\x00\x00\x04\x00\x00\x00\x09\x38\xfb\x03\x81lnrjxnna" +
				"\x00\x00\x00\x03" + a + "\x84\x85\xc2\x0c" + "\x00\x00\x00\x01" + b + "\x81\xa1\xc4\x0a",
		},
		{
			[]Record{{2000, ones}}, 2000, 1<<32 - 1,
			"annxjrnl\x00\x00\x00\x01\x00\x00\x07\xd0\xff\xff\xff\xff\x47\x05\x08\x46lnrjxnna" +
				"\x00\x00\x07\xd0" + ones + "\x8f\x7c\xff\xc6",
		},
	} {
		if s, err := Part(c.l, c.pages, c.nonce); s != c.want || err != api.OK {
			t.Errorf("Part of %d records, %d, %d = %x, error %d, want %x", len(c.l), c.pages, c.nonce, s, err, c.want)
		}
	}
}

// Promise 11.1: Part against the definition of a segment: no page, few and
// many, in any order, several times, and beyond the pages of the header.
func TestPart(t *testing.T) {
	for _, l := range [][]Record{
		nil, {}, recs(0, 1), recs(0, 2000), recs(0, 3, 1), recs(0, 1, 2, 3), recs(0, 2000, 1999, 1), recs(0, 5, 5, 5), join(recs(1, 7), recs(2, 7)),
		{{1, zeros(512)}}, {{1, strings.Repeat("\xff", 512)}}, {{1, spell(nil, 0, 0) + zeros(480)}}, {{2, strings.Repeat("é", 256)}},
	} {
		for _, pages := range goodPages() {
			for _, nonce := range goodNonces() {
				parts(t, l, pages, nonce)
			}
		}
	}
	for _, n := range []int{127, 128, 255, 256, 257, 1999, 2000} {
		parts(t, many(n), 3, 77)
	}
	same := slices.Repeat([]Record{rec(9, 1)}, 2000)
	parts(t, same, 2000, 77)
}

// Promise 11.1: numbers of pages, page counts and nonces that a header does not
// allow, alone and together, and before what is wrong with the pages.
func TestPartRange(t *testing.T) {
	lists := [][]Record{nil, recs(0, 1), recs(0, 3, 1), {{0, data(1)}}, {{2001, data(1)}}, {{1, ""}}, {{1, rising(513, 0)}}, {{0, ""}}, make([]Record, 2000)}
	for _, l := range lists {
		for _, pages := range badPages() {
			for _, nonce := range append(goodNonces(), badNonces()...) {
				refuses(t, l, pages, nonce, api.ErrRange)
			}
		}
		for _, pages := range goodPages() {
			for _, nonce := range badNonces() {
				refuses(t, l, pages, nonce, api.ErrRange)
			}
		}
	}
	for _, n := range []int{2001, 2002, 4000, 65536, 65536 + 1} {
		refuses(t, many(n), 4, 9, api.ErrRange)
		refuses(t, make([]Record, n), 4, 9, api.ErrRange)
		refuses(t, slices.Repeat([]Record{{1, ""}}, n), 4, 9, api.ErrRange)
		refuses(t, slices.Repeat([]Record{{1, ""}}, n), -1, -1, api.ErrRange)
	}
}

// Promise 11.1: a page that is not valid, at each place of a segment.
func TestPartInvalid(t *testing.T) {
	for _, n := range []int{1, 2, 3, 5, 40} {
		for k := range n {
			for _, number := range append(badPages(), 0) {
				for _, d := range []string{data(1), "", data(1)[1:], data(1) + "x"} {
					l := many(n)
					l[k] = Record{number, d}
					refuses(t, l, 4, 9, api.ErrRange)
				}
			}
			for _, size := range []int{0, 1, 256, 511, 513, 520, 1024} {
				l := many(n)
				l[k].Data = rising(size, 1)
				refuses(t, l, 4, 9, api.ErrLong)
			}
			l := many(n)
			l[k].Data = strings.Repeat("é", 512)
			refuses(t, l, 4, 9, api.ErrLong)
		}
	}
	last := many(2000)
	last[1999].Data = ""
	refuses(t, last, 2000, 1<<32-1, api.ErrLong)
	last[1999].Page = 0
	refuses(t, last, 2000, 1<<32-1, api.ErrRange)
}

// Promise 11.1, P1: several pages are not valid, and the error of the first one is returned.
func TestPartFirstError(t *testing.T) {
	long, number, both := Record{1, "x"}, Record{0, data(1)}, Record{2001, "x"}
	for i := range 4 {
		for j := i + 1; j < 5; j++ {
			for _, c := range []struct {
				one, two Record
				want     api.Errno
			}{
				{long, number, api.ErrLong}, {long, both, api.ErrLong}, {long, long, api.ErrLong},
				{number, long, api.ErrRange}, {number, both, api.ErrRange}, {both, long, api.ErrRange}, {both, number, api.ErrRange},
			} {
				l := many(5)
				l[i], l[j] = c.one, c.two
				refuses(t, l, 4, 9, c.want)
				refuses(t, l, 2001, 9, api.ErrRange)
				refuses(t, l, 4, -1, api.ErrRange)
			}
		}
	}
}

// Promise 11.1 and DOC.md, Rules: what is done to the records after the call
// does not change what was returned.
func TestPartNotShared(t *testing.T) {
	l := recs(0, 3, 1)
	want := spell(l, 4, 9)
	s, _ := Part(l, 4, 9)
	l[0], l[1] = rec(9, 9), Record{}
	if s != want {
		t.Errorf("the segment became %x", s)
	}
}

// Promise P1: long data and many records.
func TestPartLong(t *testing.T) {
	refuses(t, []Record{{1, strings.Repeat("a", 1<<24)}}, 4, 9, api.ErrLong)
	refuses(t, make([]Record, 1<<20), 4, 9, api.ErrRange)
	parts(t, many(2000), 2000, 1<<32-1)
}
