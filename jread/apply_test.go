package jread

import (
	"slices"
	"strings"
	"testing"
)

// has requires that Page returns the bytes of a page.
func has(t *testing.T, j Journal, n int, want string) {
	t.Helper()
	if d, ok := j.Page(n); d != want || !ok {
		t.Errorf("Page(%d) of %v = %.20x.., %v, want %.20x..", n, brief(j), d, ok, want)
	}
}

// hasNot requires that Page returns false, and nothing beside it.
func hasNot(t *testing.T, j Journal, numbers ...int) {
	t.Helper()
	for _, n := range numbers {
		if d, ok := j.Page(n); d != "" || ok {
			t.Errorf("Page(%d) of %v = %.20x.., %v", n, brief(j), d, ok)
		}
	}
}

// Promise 11.2: numbers that are there once, several times, or not at all.
func TestPage(t *testing.T) {
	j := Journal{Parts: 1, Pages: 4, Records: join(recs(0, 3, 1, 2000), recs(1, 3), recs(2, 7, 3, 1, 7))}
	has(t, j, 3, recs(0, 3)[0].Data)
	has(t, j, 1, recs(0, 1)[0].Data)
	has(t, j, 2000, recs(0, 2000)[0].Data)
	has(t, j, 7, recs(2, 7)[0].Data)
	hasNot(t, j, 0, -1, -3, -1<<63, 2, 4, 1999, 2001, 65536+3, 1<<32+3, 1<<63-1)
	hasNot(t, Journal{}, 0, 1, 2, -1)
	hasNot(t, Journal{Parts: 1, Pages: 4, Super: "m-s1"}, 0, 1, 2, -1)
	l := many(2000)
	k := Journal{Records: l}
	for n := 1; n <= 2000; n++ {
		has(t, k, n, l[n-1].Data)
	}
	hasNot(t, k, 0, 2001)
}

// Promise 11.2: Page goes by the number alone, whatever the Record is, and
// does not depend on Pages.
func TestPageOfAnyRecord(t *testing.T) {
	for _, pages := range append(goodPages(), badPages()...) {
		j := Journal{Pages: pages, Records: []Record{{0, "zero"}, {-1, data(1)}, {5, ""}, {5, data(5)}, {2001, "x"}, {-1 << 63, "least"}, {1<<63 - 1, "most"}, {0, data(2)}}}
		has(t, j, 0, "zero")
		has(t, j, -1, data(1))
		has(t, j, 5, "")
		has(t, j, 2001, "x")
		has(t, j, -1<<63, "least")
		has(t, j, 1<<63-1, "most")
		hasNot(t, j, 1, 2, -2, 2000, 2002, -1<<63+1, 1<<63-2)
	}
}

// Promise 11.2: Page of what Read returns is the first page of this number that was written.
func TestPageOfRead(t *testing.T) {
	j := Read(spell(recs(0, 3, 1), 4, 9) + spell(recs(1, 3, 2, 2), 4, 10) + spell(recs(2, 1, 4), 4, 11)[:1000])
	has(t, j, 3, recs(0, 3)[0].Data)
	has(t, j, 1, recs(0, 1)[0].Data)
	has(t, j, 2, recs(1, 2)[0].Data)
	hasNot(t, j, 4, 0, -1)
}

// applies requires that Apply returns a string and leaves the journal as it was.
func applies(t *testing.T, j Journal, s, want string) {
	t.Helper()
	before := slices.Clone(j.Records)
	if x := j.Apply(s); x != want {
		t.Errorf("Apply of %v, %d pages, to %d bytes = %d bytes, %.20x.., want %d bytes, %.20x..", brief(j), j.Pages, len(s), len(x), x, len(want), want)
	}
	if !slices.Equal(j.Records, before) {
		t.Errorf("Apply changed the records %v", brief(j))
	}
}

// Promise 11.2: strings shorter and longer than the pages, with and without records.
func TestApply(t *testing.T) {
	a, b, c, d, e := data(1), data(20), data(30), data(40), data(50)
	all := Journal{Parts: 1, Pages: 4, Records: []Record{{3, a}, {1, b}}}
	none := Journal{Pages: 3}
	for _, x := range []struct {
		j       Journal
		s, want string
	}{
		{Journal{}, "", ""},
		{Journal{}, "x", ""},
		{Journal{}, c + d, ""},
		{none, "", zeros(1536)},
		{none, "x", "x" + zeros(1535)},
		{none, c, c + zeros(1024)},
		{none, c + "x", c + "x" + zeros(1023)},
		{none, c + d + e, c + d + e},
		{none, c + d + e[:511], c + d + e[:511] + "\x00"},
		{none, c + d + e + "x", c + d + e},
		{none, c + d + e + a + b, c + d + e},
		{all, "", b + zeros(512) + a + zeros(512)},
		{all, "x", b + zeros(512) + a + zeros(512)},
		{all, c, b + zeros(512) + a + zeros(512)},
		{all, c + d[:100], b + d[:100] + zeros(412) + a + zeros(512)},
		{all, c + d, b + d + a + zeros(512)},
		{all, c + d + e[:7], b + d + a + zeros(512)},
		{all, c + d + e, b + d + a + zeros(512)},
		{all, c + d + e + "x", b + d + a + "x" + zeros(511)},
		{all, c + d + e + c, b + d + a + c},
		{all, c + d + e + c + d, b + d + a + c},
		{all, c + d + e + c + d + "x", b + d + a + c},
		{Journal{Pages: 1, Records: all.Records}, c + d + e, b},
		{Journal{Pages: 2, Records: all.Records}, c + d + e, b + d},
		{Journal{Pages: 2, Records: all.Records}, c, b + zeros(512)},
		{Journal{Pages: 2, Records: []Record{{3, a}}}, c[:9], c[:9] + zeros(1015)},
		{Journal{Pages: 0, Records: all.Records}, c + d + e, ""},
		{Journal{Pages: 1, Records: []Record{{1, zeros(512)}}}, c, zeros(512)},
	} {
		applies(t, x.j, x.s, x.want)
		x.j.Parts, x.j.Super = 7, "m-s1"
		applies(t, x.j, x.s, x.want)
	}
}

// Promise 11.2: records in any order; the last one of a page remains, and
// Apply does not look at Page.
func TestApplyOrder(t *testing.T) {
	a, b, c := data(1), data(20), data(30)
	for _, l := range [][]Record{{{1, a}, {2, b}, {3, c}}, {{3, c}, {2, b}, {1, a}}, {{2, b}, {3, c}, {1, a}}, {{2, a}, {1, a}, {2, b}, {3, a}, {3, c}}} {
		applies(t, Journal{Pages: 3, Records: l}, "", a+b+c)
		applies(t, Journal{Pages: 3, Records: l}, strings.Repeat("z", 2000), a+b+c)
	}
	applies(t, Journal{Pages: 1, Records: []Record{{1, a}, {1, b}}}, c, b)
	applies(t, Journal{Pages: 1, Records: []Record{{1, b}, {1, a}}}, c, a)
	applies(t, Journal{Pages: 1, Records: []Record{{1, b}, {1, ""}}}, c, b)
}

// Promise 11.2: a record that is skipped does not make the others, nor the gap
// before it, differ.
func TestApplySkipped(t *testing.T) {
	a, c := data(1), data(30)
	skipped := []Record{{1, ""}, {1, a[1:]}, {1, a + "x"}, {1, a + a}, {2, "x"}, {0, a}, {-1, a}, {2001, a}, {2002, a}, {0, ""}, {2001, ""}}
	for _, n := range badPages() {
		skipped = append(skipped, Record{n, a}, Record{n, ""}, Record{n, a + a})
	}
	for _, r := range skipped {
		for _, pages := range []int{0, 1, 2, 3} {
			want := pad(c+c, pages*512)[:pages*512]
			applies(t, Journal{Pages: pages, Records: []Record{r}}, c+c, want)
			if pages == 3 {
				want = c + c + a
				applies(t, Journal{Pages: pages, Records: []Record{r, {3, a}}}, c+c, want)
				applies(t, Journal{Pages: pages, Records: []Record{{3, a}, r}}, c+c, want)
			}
		}
	}
	applies(t, Journal{Pages: 3, Records: skipped}, c+c, c+c+zeros(512))
	applies(t, Journal{Pages: 3, Records: append(skipped, Record{2, a})}, c+c, c+a+zeros(512))
}

// Promise 11.2: Pages that are negative, 0, MaxPages and more.
func TestApplyPages(t *testing.T) {
	a, c := data(1), data(30)
	l := []Record{{2, a}, {2000, a}, {1999, c}, {2001, a}}
	long := strings.Repeat(c, 2003)
	for _, pages := range []int{-1 << 63, -1<<63 + 1, -1 << 32, -2000, -2, -1, 0} {
		for _, s := range []string{"", "x", c, long} {
			applies(t, Journal{Pages: pages}, s, "")
			applies(t, Journal{Pages: pages, Records: l}, s, "")
		}
	}
	for _, pages := range []int{2000, 2001, 2002, 4000, 65536, 1 << 32, 1<<32 + 1, 1 << 54, 1 << 55, 1<<63 - 1} {
		applies(t, Journal{Pages: pages}, "", zeros(2000*512))
		applies(t, Journal{Pages: pages}, long, long[:2000*512])
		applies(t, Journal{Pages: pages, Records: l}, "", zeros(512)+a+zeros(1996*512)+c+a)
		applies(t, Journal{Pages: pages, Records: l}, c, c+a+zeros(1996*512)+c+a)
		applies(t, Journal{Pages: pages, Records: l}, long, c+a+strings.Repeat(c, 1996)+c+a)
	}
	for _, pages := range []int{1, 1998, 1999} {
		whole := zeros(512) + a + zeros(1996*512) + c + a
		applies(t, Journal{Pages: pages, Records: l}, "", whole[:pages*512])
	}
}

// applied returns what Apply returns, by the words of the chapter.
func applied(j Journal, s string) string {
	for _, r := range j.Records {
		if r.Page >= 1 && r.Page <= 2000 && len(r.Data) == 512 {
			at := (r.Page - 1) * 512
			s = pad(s, at+512)
			s = s[:at] + r.Data + s[at+512:]
		}
	}
	size := max(0, min(j.Pages, 2000)) * 512
	return pad(s, size)[:size]
}

// Promise 11.2: Apply and Page against the words of the chapter, for records of any kind.
func TestApplyAny(t *testing.T) {
	c := chance(1)
	for range 20000 {
		j := Journal{Pages: c.below(9) - 1}
		for range c.below(6) {
			r := rec(c.below(10)-1, byte(c.below(256)))
			if c.below(5) == 0 {
				r.Data = rising(c.below(1100), 1)
			}
			j.Records = append(j.Records, r)
		}
		s := rising(c.below(9)*512, byte(c.below(256)))
		if c.below(3) == 0 {
			s = rising(c.below(5000), byte(c.below(256)))
		}
		applies(t, j, s, applied(j, s))
		for n := -2; n < 10; n++ {
			if i := slices.IndexFunc(j.Records, func(r Record) bool { return r.Page == n }); i >= 0 {
				has(t, j, n, j.Records[i].Data)
			} else {
				hasNot(t, j, n)
			}
		}
	}
}

// Promises 11.2 and 11.3: the pages of a file are restored by what Part wrote
// about them, whatever has become of the file since.
func TestApplyRestores(t *testing.T) {
	before := rising(512, 1) + rising(512, 2) + rising(512, 3) + rising(512, 4)
	one, _ := Part([]Record{{4, before[1536:]}, {2, before[512:1024]}}, 4, 9)
	two, _ := Part([]Record{{1, before[:512]}, {2, strings.Repeat("x", 512)}}, 4, 10)
	for _, now := range []string{
		before,
		before + data(9) + data(10),
		strings.Repeat("x", 1024) + before[1024:],
		strings.Repeat("x", 1024) + before[1024:1536] + strings.Repeat("y", 512),
		strings.Repeat("x", 1024) + before[1024:1536],
		strings.Repeat("x", 1024) + before[1024:1536] + strings.Repeat("y", 2000),
	} {
		applies(t, Read(one+two+trailer("main-s1")), now, before)
		applies(t, Read(one+two+spell(nil, 5, 1)), now, before)
	}
	// A second time, nothing changes any more.
	applies(t, Read(one+two), Read(one+two).Apply(before[:1536]), before)
}

// DOC.md, Rules: what was returned is shared with nothing.
func TestApplyNotShared(t *testing.T) {
	l := recs(0, 1, 2)
	j := Journal{Pages: 2, Records: l}
	x := j.Apply("")
	d, _ := j.Page(1)
	want := recs(0, 1, 2)
	clear(l)
	if x != want[0].Data+want[1].Data || d != want[0].Data {
		t.Errorf("what was returned has changed")
	}
}

// Promise P1: long strings and many records.
func TestApplyLong(t *testing.T) {
	a := data(1)
	huge := strings.Repeat("a", 1<<24)
	applies(t, Journal{Pages: 1, Records: []Record{{1, huge}}}, huge, huge[:512])
	applies(t, Journal{Pages: 1, Records: slices.Repeat([]Record{{1, a}, {0, a}, {1, ""}, {2000, a}, {1<<63 - 1, a}, {-1 << 63, a}}, 1<<16)}, "", a)
	hasNot(t, Journal{Records: slices.Repeat([]Record{{1, a}}, 1<<20)}, 2)
}
