package chain

import (
	"fmt"
	"slices"
	"strings"
	"testing"

	"annexe/api"
)

// Promise 15.3: the very pages of a chain, in the order in which they are taken.
func TestPut(t *testing.T) {
	for _, n := range []int{1, 2, 507, 508, 509, 1015, 1016, 1017, 1524, 1525, 20000} {
		p := opened(t, firstPage(0, 0, 7))
		s := text(n)
		want := []string{firstPage(0, 0, 7)}
		var order []int
		next := 0
		for at := (n - 1) / 508 * 508; at >= 0; at -= 508 {
			want = append(want, page(next, s[at:min(at+508, n)]))
			next = len(want)
			order = append([]int{next}, order...)
		}
		what := fmt.Sprint(n, " bytes")
		succeeds(t, p, put(n), result{n: next})
		has(t, what, p, want...)
		succeeds(t, p, pagesOf(next, n), result{l: order})
		succeeds(t, p, get(next, n), result{s: s})
		all(t, Drop(p, next, n))
		slices.Reverse(order)
		frees(t, what, p, order...)
	}
}

// Promise 15.3: the empty string has no chain.
func TestPutNothing(t *testing.T) {
	p := opened(t, firstPage(2, 1, 7), page(0, ""))
	untouched(t, "nothing", p, api.OK, func() api.Errno {
		for _, first := range []int{-1 << 63, -1, 0, 1, 2, 3, 1<<63 - 1} {
			for _, c := range append(read(first, 0), put(0)) {
				succeeds(t, p, c, result{})
			}
		}
		return api.OK
	})
}

// Promise 15.3: a chain of free pages, and of free and new ones.
func TestPutFree(t *testing.T) {
	for _, c := range []struct {
		many int
		l    []int // the pages of the chain
		left []int // the free ones
	}{
		{1, []int{3}, []int{5, 2}},
		{2, []int{5, 3}, []int{2}},
		{3, []int{2, 5, 3}, nil},
		{4, []int{6, 2, 5, 3}, nil},
		{6, []int{8, 7, 6, 2, 5, 3}, nil},
	} {
		p := opened(t, firstPage(3, 3, 7), page(0, ""), page(5, ""), page(0, "x"), page(2, ""))
		n := c.many * 508
		succeeds(t, p, put(n), result{n: c.l[0]})
		succeeds(t, p, pagesOf(c.l[0], n), result{l: c.l})
		succeeds(t, p, get(c.l[0], n), result{s: text(n)})
		succeeds(t, p, root(), result{n: 7})
		frees(t, fmt.Sprint(c.many, " pages"), p, c.left...)
		if s := contents(t, p)[3]; s != page(0, "x") {
			t.Errorf("page 4 is %.20q", s)
		}
	}
}

// Promise 15.3: bytes of all kinds.
func TestPutBytes(t *testing.T) {
	var b strings.Builder
	for i := range 2000 {
		b.WriteByte(byte(i * 7))
	}
	for _, s := range []string{"\x00", strings.Repeat("\x00", 508), strings.Repeat("\x00", 1200), strings.Repeat("\xff", 1016), "annxfile", "é\xff", b.String()} {
		p := opened(t, firstPage(0, 0, 0))
		first, err := Put(p, s)
		all(t, err)
		succeeds(t, p, get(first, len(s)), result{s: s})
	}
}

// Promise 15.3: the chapter's example.
func TestExample(t *testing.T) {
	p := opened(t)
	all(t, Format(p))
	s := strings.Repeat("a", 508) + "b"
	first, err := Put(p, s)
	all(t, err)
	if first != 3 {
		t.Errorf("page %d", first)
	}
	has(t, "example", p, firstPage(0, 0, 0), page(0, "b"), page(2, s[:508]))
}

// Promise 15.3: a page that begins a chain may also be in the middle of one,
// and fewer bytes may be asked for, but not fewer pages.
func TestGet(t *testing.T) {
	l := []string{firstPage(0, 0, 0), page(4, text(508)), page(0, "tail"), page(3, text(600)[92:])}
	p := opened(t, l...)
	for n := 1017; n <= 1524; n++ {
		succeeds(t, p, get(2, n), result{s: (text(508) + text(600)[92:] + "tail" + zeros)[:n]})
		succeeds(t, p, pagesOf(2, n), result{l: []int{2, 4, 3}})
	}
	succeeds(t, p, get(4, 512), result{s: text(600)[92:] + "tail"})
	succeeds(t, p, get(3, 4), result{s: "tail"})
	succeeds(t, p, get(3, 2), result{s: "ta"})
	all(t, Drop(p, 4, 1016))
	has(t, "Drop", p, firstPage(3, 2, 0), l[1], page(4, ""), page(0, ""))
}

// Promise 15.3: chains that cannot be correct.
func TestGetCorrupt(t *testing.T) {
	l := []string{firstPage(0, 0, 0), page(3, "a"), page(4, "b"), page(0, "c"), page(5, "d"), page(7, "e"), page(6, "f"), page(1, "g"), page(10, "h"), page(1<<32-1, "i")}
	for _, c := range []struct {
		what   string
		first  int
		counts []int // how many pages it does not have
	}{
		{"page 0", 0, []int{1, 2, 3, 10, 11, 100}},
		{"the first page", 1, []int{1, 2, 10, 11}},
		{"a page of three", 2, []int{1, 2, 4, 5, 9, 10, 11, 12, 4000}},
		{"the second one", 3, []int{1, 3, 10}},
		{"the last one", 4, []int{2, 3, 10}},
		{"a page that refers to itself", 5, []int{1, 2, 3, 9, 10, 11, 1 << 40}},
		{"pages that refer to each other", 6, []int{1, 2, 3, 9, 10, 11, 1 << 40}},
		{"a page that refers to the first page", 8, []int{1, 2, 3}},
		{"a page whose next one refers to none that exists", 9, []int{1, 2, 3}},
		{"a page that refers to none that exists", 10, []int{1, 2}},
		{"page 11 of 10", 11, []int{1, 2}},
		{"page -1", -1, []int{1, 2}},
		{"the least number", -1 << 63, []int{1, 2}},
		{"the greatest number", 1<<63 - 1, []int{1, 2}},
	} {
		for _, many := range c.counts {
			for _, n := range []int{many*508 - 507, many * 508} {
				p := opened(t, l...)
				for _, do := range read(c.first, n) {
					untouched(t, c.what+", "+do.what, p, api.ErrCorrupt, func() api.Errno { r, err := do.do(p); return errFor(t, r, err) })
				}
			}
		}
	}
	p := opened(t, l...)
	for _, first := range []int{-1, 0, 1, 2, 4, 5, 11} {
		for _, n := range []int{-1, -508, -1 << 63} {
			for _, do := range read(first, n) {
				untouched(t, do.what, p, api.ErrRange, func() api.Errno { r, err := do.do(p); return errFor(t, r, err) })
			}
		}
		for _, do := range read(first, 1<<63-1) {
			untouched(t, do.what, p, api.ErrCorrupt, func() api.Errno { r, err := do.do(p); return errFor(t, r, err) })
		}
	}
}

// Promise 15.3: Drop frees the first page of a chain first.
func TestDrop(t *testing.T) {
	l := []string{firstPage(6, 1, 7), page(4, text(508)), page(0, "tail"), page(3, text(508)), page(0, "x"), page(0, "")}
	p := opened(t, l...)
	all(t, Drop(p, 2, 1020))
	has(t, "Drop", p, firstPage(3, 4, 7), page(6, ""), page(4, ""), page(2, ""), page(0, "x"), page(0, ""))
	frees(t, "Drop", p, 3, 4, 2, 6)
	// The chain is not there any more.
	fails(t, p, get(2, 1020), api.ErrCorrupt)
	succeeds(t, p, drop(5, 1), result{})
	frees(t, "another Drop", p, 5, 3, 4, 2, 6)
}

// Promise 15.3: what the first page tells of free pages concerns Drop, but not
// Get and Pages.
func TestDropReferences(t *testing.T) {
	for _, head := range []string{firstPage(1, 1, 7), firstPage(4, 1, 7), firstPage(1<<32-1, 1, 7), firstPage(0, 4, 7)} {
		p := opened(t, head, page(3, text(508)), page(0, "tail"))
		untouched(t, "Drop", p, api.ErrCorrupt, func() api.Errno { return Drop(p, 2, 512) })
		untouched(t, "Drop of nothing", p, api.OK, func() api.Errno { return Drop(p, 2, 0) })
		succeeds(t, p, get(2, 512), result{s: text(508) + "tail"})
		succeeds(t, p, pagesOf(2, 512), result{l: []int{2, 3}})
	}
}

// Results share nothing: lists that are changed do not change what is returned
// next.
func TestShared(t *testing.T) {
	p := opened(t, firstPage(4, 2, 7), page(3, text(508)), page(0, "tail"), page(5, ""), page(0, ""))
	for range 2 {
		for _, c := range []call{pagesOf(2, 512), allFrees()} {
			r, err := c.do(p)
			all(t, err)
			clear(r.l)
		}
	}
	succeeds(t, p, pagesOf(2, 512), result{l: []int{2, 3}})
	frees(t, "cleared", p, 4, 5)
}
