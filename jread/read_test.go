package jread

import (
	"slices"
	"strings"
	"testing"

	"annexe/api"
)

// sameJournal reports whether two journals have the same contents.
func sameJournal(a, b Journal) bool {
	return a.Parts == b.Parts && a.Pages == b.Pages && slices.Equal(a.Records, b.Records) && a.Super == b.Super
}

// brief returns the numbers of the pages of a journal.
func brief(j Journal) []int {
	var l []int
	for _, r := range j.Records {
		l = append(l, r.Page)
	}
	return l
}

// reads requires that Read returns a journal.
func reads(t *testing.T, what, s string, want Journal) {
	t.Helper()
	if j := Read(s); !sameJournal(j, want) {
		t.Errorf("%s (%d bytes): %d parts, %d pages, records %v, super %q, want %d parts, %d pages, records %v, super %q",
			what, len(s), j.Parts, j.Pages, brief(j), j.Super, want.Parts, want.Pages, brief(want), want.Super)
	}
}

// nothing requires that Read returns an empty journal.
func nothing(t *testing.T, what, s string) {
	t.Helper()
	reads(t, what, s, Journal{})
}

// Promise 11.1: the chapter's example.
func TestReadExample(t *testing.T) {
	l := recs(0, 3, 1)
	s, other := spell(l, 4, 9), spell(recs(1, 2, 3), 4, 10)
	reads(t, "half of another segment", s+other[:len(other)/2], Journal{1, 4, l, ""})
}

// Promise 11.1: the very bytes of a journal of two segments and a trailer.
func TestReadBytes(t *testing.T) {
	a, b := strings.Repeat("a", 512), strings.Repeat("b", 512)
	s := "annxjrnl\x00\x00\x00\x02\x00\x00\x00\x04\x00\x00\x00\x09\x38\xfb\x03\x81lnrjxnna" +
		"\x00\x00\x00\x03" + a + "\x84\x85\xc2\x0c" + "\x00\x00\x00\x01" + b + "\x81\xa1\xc4\x0a" +
		"annxjrnl\x00\x00\x00\x00\x00\x00\x00\x04\x00\x00\x00\x09\x38\xe9\x03\x7flnrjxnna" +
		"annxname\x00\x00\x00\x04m-s1\x2d\xf6\x04\xa5emanxnna"
	reads(t, "two segments and a trailer", s, Journal{2, 4, []Record{{3, a}, {1, b}}, "m-s1"})
}

// Promise 11.1: what does not begin with a segment.
func TestReadNothing(t *testing.T) {
	s := spell(recs(0, 3, 1), 4, 9)
	for _, x := range []string{
		"", "\x00", "a", "annxjrnl", "lnrjxnna", "annxjrnllnrjxnna", s[1:], "\x00" + s, "a" + s, s[32:], trailer("m-s1"), trailer("m-s1") + s, zeros(32) + s, zeros(520) + s,
		"annxsupr\x00\x00\x00\x02\x00\x00\x00\x01a\x00\x00\x00\x01b\x44\x1e\x04\x51rpusxnna",
		strings.Repeat("annxjrnl", 100), rising(5000, 0), page(1, data(0), 9), page(1, data(0), 9) + s,
	} {
		nothing(t, "no segment", x)
		nothing(t, "no segment and a trailer", x+trailer("m-s1"))
	}
	for n := range 1200 {
		nothing(t, "zero bytes", zeros(n))
		nothing(t, "ones", strings.Repeat("\xff", n))
	}
}

// Promise 11.1: headers whose checksum is right, and that are not valid.
func TestReadBadHeaders(t *testing.T) {
	l := recs(0, 3, 1)
	good := spell(l, 4, 9)
	for _, n := range []uint32{2001, 2002, 65536, 65536 + 2, 1<<24 + 2, 1 << 31, 1<<32 - 1} {
		for _, bad := range []string{head(n, 4, 9) + body(l, 9), head(2, n, 9) + body(l, 9), head(0, n, 9), head(n, n, 9)} {
			nothing(t, "a bad header", bad)
			nothing(t, "a bad header and a segment", bad+good)
			nothing(t, "a bad header and a trailer", bad+trailer("m-s1"))
			reads(t, "a bad second header", good+bad+good+trailer("m-s1"), Journal{1, 4, l, ""})
		}
	}
	for at := range 32 {
		for d := 1; d < 256; d++ {
			nothing(t, "a changed header", flip(good, at, byte(d))+good)
			reads(t, "a changed second header", good+flip(good, at, byte(d)), Journal{1, 4, l, ""})
		}
	}
	// Pages that are all there do not make up for a header of another checksum.
	nothing(t, "a count without its checksum", put(good, 8, four(1)))
	nothing(t, "no mark at the end", put(good, 24, zeros(8)))
}

// Promise 11.1: one segment, of any permitted header.
func TestReadOneSegment(t *testing.T) {
	for _, l := range [][]Record{nil, recs(0, 1), recs(0, 2000), recs(0, 3, 1), recs(0, 1, 2, 3, 4, 5), {{1, zeros(512)}}, {{7, strings.Repeat("\xff", 512)}}} {
		for _, pages := range goodPages() {
			for _, nonce := range goodNonces() {
				s := spell(l, uint32(pages), uint32(nonce))
				reads(t, "one segment", s, Journal{1, pages, l, ""})
				reads(t, "one segment and a trailer", s+trailer("m-s1"), Journal{1, pages, l, "m-s1"})
			}
		}
	}
	for _, n := range []int{255, 256, 257, 1999, 2000} {
		reads(t, "many pages", spell(many(n), 2000, 77), Journal{1, 2000, many(n), ""})
		reads(t, "many pages, cut", spell(many(n), 2000, 77)[:32+520*n-1], Journal{})
	}
}

// Promise 11.1: several segments, each with a nonce of its own.
func TestReadSeveralSegments(t *testing.T) {
	var s string
	want := Journal{Pages: 4}
	for k := range 12 {
		l := recs(byte(k), 4*k+1, 4*k+3, 4*k+2)[:k%4]
		s += spell(l, 4, uint32(1000*k))
		want.Parts++
		want.Records = append(want.Records, l...)
		reads(t, "segments", s, want)
		named := want
		named.Super = "main-s7"
		reads(t, "segments and a trailer", s+trailer("main-s7"), named)
	}
	one := spell(recs(0, 2), 4, 9)
	reads(t, "a segment three times", one+one+one, Journal{3, 4, recs(0, 2), ""})
}

// Promise 11.1: segments without pages count, wherever they are.
func TestReadEmptySegments(t *testing.T) {
	empty, full, l := spell(nil, 4, 1), spell(recs(0, 3, 1), 4, 9), recs(0, 3, 1)
	reads(t, "empty", empty, Journal{1, 4, nil, ""})
	reads(t, "empty, of no page", spell(nil, 0, 0), Journal{1, 0, nil, ""})
	reads(t, "empty and a trailer", empty+trailer("m-s1"), Journal{1, 4, nil, "m-s1"})
	reads(t, "three empty ones", empty+empty+empty, Journal{3, 4, nil, ""})
	reads(t, "empty before full", empty+full, Journal{2, 4, l, ""})
	reads(t, "full before empty", full+empty, Journal{2, 4, l, ""})
	reads(t, "empty between full", full+empty+full, Journal{3, 4, l, ""})
	reads(t, "empty between full, and a trailer", full+empty+full+trailer("m-s1"), Journal{3, 4, l, "m-s1"})
	reads(t, "bytes behind an empty one", empty+"x"+full, Journal{1, 4, nil, ""})
}

// Promise 11.1: a segment whose header has other Pages than the first one ends
// the journal, also if one follows that has the same again; the first decides,
// not the one before.
func TestReadOtherPages(t *testing.T) {
	l, m := recs(0, 3, 1), recs(1, 2)
	for _, pages := range goodPages() {
		s := spell(l, uint32(pages), 9)
		for _, others := range goodPages() {
			if others == pages {
				reads(t, "the same Pages", s+spell(m, uint32(others), 10), Journal{2, pages, join(l, m), ""})
				continue
			}
			for _, other := range []string{spell(m, uint32(others), 10), spell(nil, uint32(others), 9), spell(l, uint32(others), 9)} {
				want := Journal{1, pages, l, ""}
				reads(t, "other Pages", s+other, want)
				reads(t, "other Pages, and the same again", s+other+s, want)
				reads(t, "other Pages twice", s+other+other, want)
				reads(t, "other Pages and a trailer", s+other+trailer("m-s1"), want)
				reads(t, "other Pages in the third", s+s+other+s, Journal{2, pages, l, ""})
				reads(t, "other Pages behind an empty one", spell(nil, uint32(pages), 1)+other, Journal{1, pages, nil, ""})
			}
		}
	}
}

// Promise 11.1: a header says how many pages there are, whatever they say.
func TestReadOtherCount(t *testing.T) {
	l := recs(0, 3, 1, 2)
	for count := range uint32(6) {
		s := head(count, 4, 9) + body(l, 9)
		want := Journal{}
		switch {
		case count < 3:
			// The pages that are left are no segment and no trailer.
			want = Journal{1, 4, l[:count], ""}
		case count == 3:
			want = Journal{1, 4, l, ""}
		}
		reads(t, "another count", s, want)
		if count == 3 {
			want.Super = "m-s1"
		}
		reads(t, "another count and a trailer", s+trailer("m-s1"), want)
		// What follows is not taken for the pages that are missing.
		want.Super = ""
		if count == 3 {
			want.Parts++
		}
		reads(t, "another count and a segment", s+spell(nil, 4, 9), want)
	}
	nothing(t, "no page at all", head(1, 4, 9))
	nothing(t, "no page, but a segment", head(1, 4, 9)+spell(recs(0, 1), 4, 9))
	nothing(t, "as many pages as possible", head(2000, 4, 9)+body(l, 9))
}

// three returns three segments and what they contain.
func three() ([3]string, [3][]Record) {
	l := [3][]Record{recs(0, 3, 1, 2), recs(1, 4, 6, 5), recs(2, 8, 7, 9)}
	return [3]string{spell(l[0], 4, 9), spell(l[1], 4, 10), spell(l[2], 4, 11)}, l
}

// torn requires that the segments before the k-th of three count, and nothing
// of what is put in its place or comes behind it.
func torn(t *testing.T, what string, k int, other string) {
	t.Helper()
	s, l := three()
	want := Journal{Parts: k}
	if k > 0 {
		want.Pages = 4
	}
	want.Records = join(l[:k]...)
	before, after := strings.Join(s[:k], ""), strings.Join(s[k+1:], "")
	reads(t, what, before+other, want)
	reads(t, what+", and what follows", before+other+after, want)
	reads(t, what+", and a trailer", before+other+trailer("m-s1"), want)
	reads(t, what+", and itself", before+other+s[k]+after+trailer("m-s1"), want)
}

// Promise 11.1: a segment with a page missing, cut short or changed, each of
// its pages and each of the segments; and what follows it.
func TestReadTorn(t *testing.T) {
	s, l := three()
	for k := range 3 {
		nonce := uint32(9 + k)
		for i := range 3 {
			at := 32 + 520*i
			torn(t, "a page missing", k, s[k][:at]+s[k][at+520:])
			for _, n := range []int{1, 4, 8, 256, 512, 516, 519} {
				torn(t, "a page cut at its end", k, s[k][:at+520-n]+s[k][at+520:])
				torn(t, "a page cut at its start", k, s[k][:at]+s[k][at+n:])
				torn(t, "a page of zero bytes at its end", k, put(s[k], at+520-n, zeros(n)))
				torn(t, "bytes within a page", k, s[k][:at+n]+zeros(n)+s[k][at+n:])
			}
			torn(t, "a page of zero bytes", k, put(s[k], at, zeros(520)))
			for _, other := range []string{
				page(0, data(1), nonce), page(2001, data(1), nonce), page(1<<32-1, data(1), nonce), page(65536+1, data(1), nonce),
				page(1, data(1), nonce+1), page(1, data(1), 0), page(1, data(1), 7), page(uint32(l[k][i].Page), l[k][i].Data, nonce-1),
			} {
				torn(t, "another page", k, put(s[k], at, other))
			}
		}
		for n := range len(s[k]) {
			if n < 40 || n%7 == 0 || n > len(s[k])-10 {
				torn(t, "a segment cut short", k, s[k][:n]+"\xff")
			}
		}
	}
}

// Promise 11.1: any byte of segments and a trailer, changed.
func TestReadOneChangedByte(t *testing.T) {
	l, m := recs(0, 3, 1), recs(1, 2)
	one, two, name := spell(l, 4, 9), spell(m, 4, 10), trailer("m-s1")
	s := one + two + name
	reads(t, "not changed", s, Journal{2, 4, join(l, m), "m-s1"})
	for at := range len(s) {
		want := Journal{}
		switch {
		case at >= len(one)+len(two):
			want = Journal{2, 4, join(l, m), ""}
		case at >= len(one):
			want = Journal{1, 4, l, ""}
		}
		for _, d := range []byte{1, 2, 4, 8, 16, 32, 64, 128, 255, s[at] | 1} {
			reads(t, "changed", flip(s, at, d), want)
		}
	}
}

// Promise 11.1: pages of another nonce than that of their header; by chapter
// 3, nonces with the same remainder have the same checksums.
func TestReadOtherNonce(t *testing.T) {
	l := recs(0, 3, 1)
	first := spell(recs(1, 2), 4, 9)
	for _, nonce := range goodNonces() {
		for _, other := range append(goodNonces(), 9, 7, 13) {
			s := head(2, 4, uint32(nonce)) + body(l, uint32(other))
			mixed := head(2, 4, uint32(nonce)) + body(l[:1], uint32(nonce)) + body(l[1:], uint32(other))
			if nonce%65521 == other%65521 {
				reads(t, "a nonce of the same remainder", s, Journal{1, 4, l, ""})
				reads(t, "a nonce of the same remainder, in one page", mixed, Journal{1, 4, l, ""})
				continue
			}
			for _, x := range []string{s, mixed} {
				nothing(t, "another nonce", x)
				nothing(t, "another nonce and a segment", x+first)
				reads(t, "another nonce in the second", first+x+first+trailer("m-s1"), Journal{1, 4, recs(1, 2), ""})
			}
		}
	}
}

// Promise 11.1: a trailer counts only behind a segment, and only if the bytes
// to the end are one.
func TestReadTrailer(t *testing.T) {
	l := recs(0, 3, 1)
	s := spell(l, 4, 9)
	plain := Journal{1, 4, l, ""}
	for _, path := range []string{"m-s1", "a", "\x00", "main-s1000", strings.Repeat("x", 39), strings.Repeat("\xff", 40), "annxjrnl", "annxname", "emanxnna"} {
		name := trailer(path)
		nothing(t, "a trailer alone", name)
		nothing(t, "two trailers alone", name+name)
		nothing(t, "a trailer before a segment", name+s)
		reads(t, "a trailer", s+name, Journal{1, 4, l, path})
		reads(t, "a trailer behind two", s+s+name, Journal{2, 4, l, path})
		reads(t, "a trailer behind an empty one", spell(nil, 0, 0)+name, Journal{1, 0, nil, path})
		for _, more := range []string{"\x00", "a", "\xff", zeros(8), zeros(512), name, trailer("other-s1"), s, spell(nil, 4, 9), s + name} {
			reads(t, "a trailer and more", s+name+more, plain)
		}
		for _, more := range []string{"\x00", "a", "emanxnna", zeros(32), page(1, data(0), 9), head(1, 4, 9)} {
			reads(t, "bytes before a trailer", s+more+name, plain)
		}
		for k := range len(name) {
			reads(t, "a trailer that is cut", s+name[:k], plain)
			reads(t, "a trailer over zero bytes", s+pad(name[:k], len(name)), plain)
			reads(t, "the end of a trailer", s+name[len(name)-k:], plain)
			reads(t, "a changed trailer", s+flip(name, k, 1), plain)
		}
	}
	for _, path := range []string{"", strings.Repeat("x", 41), strings.Repeat("x", 512)} {
		reads(t, "a trailer of no path", s+trailer(path), plain)
	}
	reads(t, "a super-journal", s+"annxsupr\x00\x00\x00\x02\x00\x00\x00\x01a\x00\x00\x00\x01b\x44\x1e\x04\x51rpusxnna", plain)
}

// Promise 11.1: of several pages with the same number, only the first one, in
// one segment and in several; the others keep their order.
func TestReadSamePages(t *testing.T) {
	for _, c := range []struct{ one, two, want []Record }{
		{recs(0, 5, 5, 5), nil, recs(0, 5)},
		{join(recs(0, 5), recs(1, 5)), nil, recs(0, 5)},
		{join(recs(1, 5), recs(0, 5)), nil, recs(1, 5)},
		{join(recs(0, 5, 3), recs(1, 3, 5), recs(2, 4, 3)), nil, join(recs(0, 5, 3), recs(2, 4))},
		{recs(0, 5), recs(1, 5), recs(0, 5)},
		{recs(1, 5), recs(0, 5), recs(1, 5)},
		{recs(0, 3, 1), recs(1, 1, 3), recs(0, 3, 1)},
		{recs(0, 3, 1), recs(1, 3, 2), join(recs(0, 3, 1), recs(1, 2))},
		{recs(0, 3, 1), join(recs(1, 2, 3), recs(2, 2, 4)), join(recs(0, 3, 1), recs(1, 2), recs(2, 4))},
		{recs(0, 1, 2000), recs(1, 2000, 1, 1999), join(recs(0, 1, 2000), recs(1, 1999))},
		{nil, join(recs(0, 7), recs(1, 7)), recs(0, 7)},
	} {
		s := spell(c.one, 9, 3) + spell(c.two, 9, 4)
		reads(t, "the same pages", s, Journal{2, 9, c.want, ""})
		reads(t, "the same pages and a trailer", s+trailer("m-s1"), Journal{2, 9, c.want, "m-s1"})
	}
	twice := append(many(1000), many(1000)...)
	for i := range twice[1000:] {
		twice[1000+i].Data = data(99)
	}
	reads(t, "all pages twice", spell(twice, 9, 3), Journal{1, 9, many(1000), ""})
	// A page of a torn segment is not in the way of one that counts.
	reads(t, "torn", spell(recs(0, 1), 9, 3)+spell(recs(1, 2), 9, 4)[:551], Journal{1, 9, recs(0, 1), ""})
}

// written returns the segments of some lists of records, as Part writes them.
func written(t *testing.T, pages int, lists [][]Record) []string {
	t.Helper()
	var l []string
	for k, records := range lists {
		s, err := Part(records, pages, 40000*k)
		if err != api.OK {
			t.Fatalf("Part of %d records: error %d", len(records), err)
		}
		l = append(l, s)
	}
	return l
}

// firsts returns the first record of each page.
func firsts(l []Record) []Record {
	var out []Record
	for _, r := range l {
		if !slices.ContainsFunc(out, func(o Record) bool { return o.Page == r.Page }) {
			out = append(out, r)
		}
	}
	return out
}

// Promise 11.3: Read returns what was written; of each proper prefix, alone
// and over zero bytes, the segments that are complete, and no trailer.
func TestReadPrefixes(t *testing.T) {
	for _, lists := range [][][]Record{
		{nil},
		{recs(0, 1)},
		{recs(0, 3, 1), recs(1, 2, 3)},
		{nil, recs(0, 3, 1), nil, recs(1, 2, 1)},
		{{{2000, zeros(512)}}, {{1, strings.Repeat("\xff", 512)}, {1, zeros(512)}}},
	} {
		l := written(t, 4, lists)
		s := strings.Join(l, "") + trailer("main-s1")
		reads(t, "everything", s, Journal{len(l), 4, firsts(join(lists...)), "main-s1"})
		for k := range len(s) {
			reads(t, "a prefix", s[:k], complete(l, lists, k, 0))
			for _, n := range []int{1, 8, len(s) - k, len(s) - k + 1, 520, 5000} {
				reads(t, "a prefix over zero bytes", s[:k]+zeros(n), complete(l, lists, k, n))
			}
		}
		for _, n := range []int{1, 8, 32, 520, 5000} {
			reads(t, "everything over zero bytes", s+zeros(n), complete(l, lists, len(s), n))
		}
	}
}

// complete returns what there is of some segments if of them only a prefix of
// k bytes has survived, and n zero bytes follow; these may be what the end of
// a segment was, too.
func complete(l []string, lists [][]Record, k, n int) Journal {
	var j Journal
	s, end := strings.Join(l, ""), 0
	for i, segment := range l {
		end += len(segment)
		if end > k && (end > k+n || s[k:end] != zeros(end-k)) {
			break
		}
		j.Parts, j.Pages = i+1, 4
	}
	j.Records = firsts(join(lists[:j.Parts]...))
	return j
}

// Promise 11.3: Read inverts Part, for each page count, nonce and number of pages.
func TestReadInvertsPart(t *testing.T) {
	for _, pages := range goodPages() {
		for _, nonce := range goodNonces() {
			for _, n := range []int{0, 1, 2, 7, 30} {
				l := many(n)
				s, err := Part(l, pages, nonce)
				if err != api.OK {
					t.Errorf("Part of %d records, %d, %d: error %d", n, pages, nonce, err)
				}
				reads(t, "what was written", s, Journal{1, pages, l, ""})
				reads(t, "what was written, with a trailer", s+trailer("main-s1"), Journal{1, pages, l, "main-s1"})
			}
		}
	}
	s, _ := Part(many(2000), 2000, 1<<32-1)
	reads(t, "all pages", s+s+trailer("main-s1"), Journal{2, 2000, many(2000), "main-s1"})
}

// whole returns the segment at the start of a string by the words of the
// chapter, and its length, which is 0 if there is none.
func whole(s string) (pages uint32, l []Record, size int) {
	if len(s) < 32 {
		return 0, nil, 0
	}
	count, pages, nonce := number(s[8:]), number(s[12:]), number(s[16:])
	if s[:32] != head(count, pages, nonce) || count > 2000 || pages > 2000 || len(s) < 32+520*int(count) {
		return 0, nil, 0
	}
	for i := range int(count) {
		p := s[32+520*i : 32+520*i+520]
		n, d := number(p), p[4:516]
		if p != page(n, d, nonce) || n < 1 || n > 2000 {
			return 0, nil, 0
		}
		l = append(l, Record{int(n), d})
	}
	return pages, l, 32 + 520*int(count)
}

// contents returns the contents of a string as a journal by the words of the chapter.
func contents(s string) Journal {
	var j Journal
	var all []Record
	for {
		pages, l, size := whole(s)
		if size == 0 || j.Parts > 0 && int(pages) != j.Pages {
			break
		}
		j.Parts, j.Pages = j.Parts+1, int(pages)
		all, s = append(all, l...), s[size:]
	}
	j.Records = firsts(all)
	if n := len(s) - 24; j.Parts > 0 && n >= 1 && n <= 40 && s == trailer(s[12:12+n]) {
		j.Super = s[12 : 12+n]
	}
	return j
}

// piece returns something that may be in a journal, mostly a segment, and
// often one that is damaged.
func piece(c *chance) string {
	var l []Record
	for range c.below(4) {
		l = append(l, rec(1+c.below(4), byte(c.below(256))))
	}
	nonce := uint32(c.below(3))
	s := spell(l, 4, nonce)
	switch c.below(24) {
	case 0:
		return spell(l, 5, nonce)
	case 1:
		return head(uint32(len(l)+1), 4, nonce) + body(l, nonce)
	case 2:
		return head(uint32(len(l)), 4, nonce+1) + body(l, nonce)
	case 3:
		return s[:c.below(len(s))]
	case 4:
		return flip(s, c.below(len(s)), byte(1+c.below(255)))
	case 5:
		return s[:32] + page(uint32(c.below(2)*2001), data(1), nonce) + s[32:]
	case 6:
		return rising(c.below(600), byte(c.below(256)))
	case 7:
		return zeros(c.below(600))
	case 8, 9:
		return trailer(strings.Repeat("x", c.below(42)))
	}
	return s
}

// Promise 11.1: Read against the words of the chapter, for pieces of all kinds in any order.
func TestReadAnyPieces(t *testing.T) {
	c := chance(1)
	several, named, doubled := 0, 0, 0
	for range 20000 {
		var b strings.Builder
		for range c.below(6) {
			b.WriteString(piece(&c))
		}
		if c.below(2) == 0 {
			b.WriteString(trailer("main-s1"))
		}
		s := b.String()
		want := contents(s)
		reads(t, "pieces", s, want)
		if want.Parts > 1 {
			several++
		}
		if want.Super != "" {
			named++
		}
		if len(want.Records) > 3 {
			doubled++
		}
	}
	if several < 1000 || named < 1000 || doubled < 500 {
		t.Errorf("too few: %d of several segments, %d with a trailer, %d with many pages", several, named, doubled)
	}
}

// DOC.md, Rules: what was returned is shared with nothing, and nothing is kept
// from call to call.
func TestReadNotShared(t *testing.T) {
	l := recs(0, 3, 1)
	s := spell(l, 4, 9) + spell(recs(1, 2), 4, 10)
	want := Journal{2, 4, join(l, recs(1, 2)), ""}
	j := Read(s)
	clear(j.Records)
	reads(t, "once more", s, want)
	k := Read(s)
	_ = append(k.Records[:1], Record{9, "x"})
	nothing(t, "nothing, between", "")
	reads(t, "once more", s, want)
}

// Promises 11.1 and P1: the iterator over the segments can be left after any
// of them, and can be used again.
func TestSegments(t *testing.T) {
	s, l := three()
	seq := segments(strings.Join(s[:], "") + "torn" + s[0])
	for most := 1; most <= 5; most++ {
		n := 0
		for g := range seq {
			if n < 3 && (g.pages != 4 || !slices.Equal(g.records, l[n]) || g.rest != strings.Join(s[n+1:], "")+"torn"+s[0]) {
				t.Errorf("segment %d: %d pages, %d records, %d bytes left", n, g.pages, len(g.records), len(g.rest))
			}
			n++
			if n == most {
				break
			}
		}
		if n != min(most, 3) {
			t.Errorf("%d segments, of %d at most", n, most)
		}
	}
}

// Promise P1: long strings.
func TestReadLong(t *testing.T) {
	empty := spell(nil, 4, 9)
	reads(t, "segments without pages", strings.Repeat(empty, 1<<17)+trailer("m-s1"), Journal{1 << 17, 4, nil, "m-s1"})
	full := spell(many(2000), 2000, 9)
	reads(t, "all pages four times", strings.Repeat(full, 4)+trailer("m-s1"), Journal{4, 2000, many(2000), "m-s1"})
	nothing(t, "headers", strings.Repeat(head(2000, 4, 9), 1<<15))
	nothing(t, "marks", strings.Repeat("annxjrnl", 1<<18))
	reads(t, "names", empty+strings.Repeat(trailer("m-s1"), 1<<15), Journal{1, 4, nil, ""})
	reads(t, "zero bytes", empty+zeros(1<<24), Journal{1, 4, nil, ""})
}
