package chain

import (
	"fmt"
	"slices"
	"strings"
	"testing"

	"annexe/api"
	"annexe/disk"
	"annexe/pager"
)

// all requires that no call has failed.
func all(t *testing.T, errs ...api.Errno) {
	t.Helper()
	for i, err := range errs {
		if err != api.OK {
			t.Fatalf("call %d of %d: error %d", i+1, len(errs), err)
		}
	}
}

func failsWith(t *testing.T, what string, err, want api.Errno) {
	t.Helper()
	if err != want {
		t.Errorf("%s: error %d, want %d", what, err, want)
	}
}

// four returns a number as it is in a page.
func four(n int) string { return string([]byte{byte(n >> 24), byte(n >> 16), byte(n >> 8), byte(n)}) }

// filled returns a page that begins with a string.
func filled(s string) string { return s + strings.Repeat("\x00", api.PageSize-len(s)) }

// firstPage returns the first page of a file.
func firstPage(first, free, root int) string {
	return filled("annxfile" + four(first) + four(free) + four(root))
}

// page returns a page of a chain, or a free page.
func page(next int, data string) string { return filled(four(next) + data) }

// zeros is a page without contents.
var zeros = filled("")

// text returns n bytes, of which any 508 in a row differ from all others.
func text(n int) string {
	var b strings.Builder
	for i := 0; b.Len() < n; i++ {
		fmt.Fprintf(&b, "%d,", i)
	}
	return b.String()[:n]
}

// opened opens a file with some pages, and begins a transaction.
func opened(t *testing.T, pages ...string) *pager.Pager {
	t.Helper()
	p, _ := openedOn(t, 2, pages...)
	all(t, p.Begin())
	return p
}

// openedOn opens a file with some pages.
func openedOn(t *testing.T, keep int, pages ...string) (*pager.Pager, *disk.Disk) {
	t.Helper()
	d := disk.New(-1)
	all(t, d.Create("a"), d.Write("a", 0, strings.Join(pages, "")), d.Sync("a"), d.DirSync())
	p, err := pager.Open(d, "a", keep)
	all(t, err)
	return p, d
}

// contents returns the pages of a file.
func contents(t *testing.T, p *pager.Pager) []string {
	t.Helper()
	count, err := p.Pages()
	all(t, err)
	var l []string
	for n := range count {
		s, err := p.Read(n + 1)
		all(t, err)
		l = append(l, s)
	}
	return l
}

// has requires that a file has exactly these pages.
func has(t *testing.T, what string, p *pager.Pager, want ...string) {
	t.Helper()
	got := contents(t, p)
	if len(got) != len(want) {
		t.Errorf("%s: %d pages, want %d", what, len(got), len(want))
		return
	}
	for i := range want {
		if got[i] != want[i] {
			t.Errorf("%s: page %d is %.30q, want %.30q", what, i+1, got[i], want[i])
		}
	}
}

// untouched requires the error of a call, and that it changes nothing, not even
// whether there is something to be committed.
func untouched(t *testing.T, what string, p *pager.Pager, want api.Errno, call func() api.Errno) {
	t.Helper()
	before, changed := contents(t, p), p.Changed()
	failsWith(t, what, call(), want)
	has(t, what, p, before...)
	if p.Changed() != changed {
		t.Errorf("%s: Changed %v", what, p.Changed())
	}
}

// frees requires which pages are free.
func frees(t *testing.T, what string, p *pager.Pager, want ...int) {
	t.Helper()
	l, err := Frees(p)
	if !slices.Equal(l, want) || err != api.OK {
		t.Errorf("%s: free pages %v, error %d, want %v", what, l, err, want)
	}
}

// call is a call of a function of the package.
type call struct {
	what string
	do   func(p *pager.Pager) (result, api.Errno)
}

// result is what a function returns beside an error: a number, a list, or a text.
type result struct {
	n int
	l []int
	s string
}

func (r result) String() string { return fmt.Sprintf("%d, %v, %.30q", r.n, r.l, r.s) }

func (r result) empty() bool { return r.n == 0 && len(r.l) == 0 && r.s == "" }

func format() call {
	return call{"Format", func(p *pager.Pager) (result, api.Errno) { return result{}, Format(p) }}
}

func root() call {
	return call{"Root", func(p *pager.Pager) (result, api.Errno) { n, err := Root(p); return result{n: n}, err }}
}

func setRoot(n int) call {
	return call{fmt.Sprint("SetRoot ", n), func(p *pager.Pager) (result, api.Errno) { return result{}, SetRoot(p, n) }}
}

func alloc() call {
	return call{"Alloc", func(p *pager.Pager) (result, api.Errno) { n, err := Alloc(p); return result{n: n}, err }}
}

func free(n int) call {
	return call{fmt.Sprint("Free ", n), func(p *pager.Pager) (result, api.Errno) { return result{}, Free(p, n) }}
}

func allFrees() call {
	return call{"Frees", func(p *pager.Pager) (result, api.Errno) { l, err := Frees(p); return result{l: l}, err }}
}

func put(n int) call {
	return call{fmt.Sprintf("Put of %d bytes", n), func(p *pager.Pager) (result, api.Errno) {
		first, err := Put(p, text(n))
		return result{n: first}, err
	}}
}

func get(first, n int) call {
	return call{fmt.Sprintf("Get %d, %d", first, n), func(p *pager.Pager) (result, api.Errno) {
		s, err := Get(p, first, n)
		return result{s: s}, err
	}}
}

func pagesOf(first, n int) call {
	return call{fmt.Sprintf("Pages %d, %d", first, n), func(p *pager.Pager) (result, api.Errno) {
		l, err := Pages(p, first, n)
		return result{l: l}, err
	}}
}

func drop(first, n int) call {
	return call{fmt.Sprintf("Drop %d, %d", first, n), func(p *pager.Pager) (result, api.Errno) {
		return result{}, Drop(p, first, n)
	}}
}

// read returns the calls that read a chain.
func read(first, n int) []call { return []call{pagesOf(first, n), get(first, n), drop(first, n)} }

// fails requires that a call of a pager, which may be nil, fails, and that its
// other result is the zero value.
func fails(t *testing.T, p *pager.Pager, c call, want api.Errno) {
	t.Helper()
	r, err := c.do(p)
	failsWith(t, c.what, err, want)
	if !r.empty() {
		t.Errorf("%s: result %v", c.what, r)
	}
}

// succeeds requires that a call does not fail, and what it returns.
func succeeds(t *testing.T, p *pager.Pager, c call, want result) {
	t.Helper()
	r, err := c.do(p)
	if r.n != want.n || !slices.Equal(r.l, want.l) || r.s != want.s || err != api.OK {
		t.Errorf("%s: result %v, error %d, want %v", c.what, r, err, want)
	}
}

// Promise P1: a nil pager.
func TestNil(t *testing.T) {
	for _, c := range append(append(append(read(2, 1), read(0, 1)...), read(-1, 5000)...),
		format(), root(), setRoot(1), setRoot(-1), alloc(), free(2), free(0), allFrees(), put(1), put(5000),
	) {
		fails(t, nil, c, api.ErrState)
	}
	succeeds(t, nil, put(0), result{})
	for _, c := range read(2, 0) {
		succeeds(t, nil, c, result{})
	}
	for _, c := range read(2, -1) {
		fails(t, nil, c, api.ErrRange)
	}
	// One that has not been opened has no pages, and never a transaction.
	for _, c := range append(read(2, 1), root(), setRoot(1), alloc(), free(2), allFrees(), put(1)) {
		fails(t, &pager.Pager{}, c, api.ErrCorrupt)
	}
	fails(t, &pager.Pager{}, format(), api.ErrState)
}

// Promises 15.1 to 15.3: a file without pages, in a transaction and without one.
func TestEmpty(t *testing.T) {
	for _, within := range []bool{false, true} {
		p, d := openedOn(t, 2)
		if within {
			all(t, p.Begin())
		}
		ops := d.Ops()
		for _, c := range append(append(append(read(2, 1), read(1, 1)...), read(0, 5000)...),
			root(), setRoot(1), setRoot(-1), setRoot(2001), alloc(), free(0), free(1), free(2), allFrees(), put(1), put(5000),
		) {
			fails(t, p, c, api.ErrCorrupt)
		}
		succeeds(t, p, put(0), result{})
		for _, c := range read(2, 0) {
			succeeds(t, p, c, result{})
		}
		for _, c := range read(2, -1) {
			fails(t, p, c, api.ErrRange)
		}
		has(t, "no pages", p)
		if p.Changed() || d.Ops() != ops {
			t.Errorf("Changed %v, %d disk calls", p.Changed(), d.Ops()-ops)
		}
		if !within {
			fails(t, p, format(), api.ErrState)
			has(t, "without a transaction", p)
		}
	}
}

// Promises 15.1 to 15.3: a file that is not well-formed. A chain can be read,
// and not dropped.
func TestMalformed(t *testing.T) {
	heads := []string{zeros, strings.Repeat("x", 512), filled("\x00annxfile"), filled("annxfil"), filled("ANNXFILE"), page(2, "annxfile")}
	for i := range 8 {
		for _, c := range []byte{1, 32, 128} {
			b := []byte(firstPage(0, 0, 7))
			b[i] ^= c
			heads = append(heads, string(b))
		}
	}
	for _, head := range heads {
		for _, within := range []bool{false, true} {
			l := []string{head, page(3, text(508)), page(0, "tail"), firstPage(0, 0, 7)}
			p, _ := openedOn(t, 2, l...)
			if within {
				all(t, p.Begin())
			}
			for _, c := range []call{
				format(), root(), setRoot(1), setRoot(-1), setRoot(2001), alloc(), free(0), free(1), free(2), free(5), allFrees(),
				put(1), put(5000), drop(3, 4), drop(2, 512),
			} {
				fails(t, p, c, api.ErrCorrupt)
			}
			succeeds(t, p, put(0), result{})
			succeeds(t, p, drop(3, 0), result{})
			succeeds(t, p, get(2, 512), result{s: text(508) + "tail"})
			succeeds(t, p, pagesOf(2, 512), result{l: []int{2, 3}})
			has(t, "not well-formed", p, l...)
			if p.Changed() {
				t.Error("Changed")
			}
		}
	}
}

// Promises 15.1 to 15.3: without a transaction, and after a Name, everything
// can be read, and nothing can be written.
func TestNoTransaction(t *testing.T) {
	l := []string{firstPage(4, 2, 7), page(3, text(508)), page(0, "tail"), page(5, ""), page(0, "")}
	for _, named := range []bool{false, true} {
		p, d := openedOn(t, 2, l...)
		if named {
			all(t, p.Begin(), p.Write(1, l[0]), p.Journal(), p.Name("boss"))
		}
		ops := d.Ops()
		succeeds(t, p, format(), result{})
		succeeds(t, p, root(), result{n: 7})
		succeeds(t, p, allFrees(), result{l: []int{4, 5}})
		succeeds(t, p, put(0), result{})
		succeeds(t, p, get(2, 512), result{s: text(508) + "tail"})
		succeeds(t, p, pagesOf(2, 512), result{l: []int{2, 3}})
		succeeds(t, p, drop(2, 0), result{})
		for _, c := range []call{setRoot(0), setRoot(2000), alloc(), free(2), free(5), put(1), put(508), put(509), put(5000), put(508 * 1997), put(508 * 1998), put(2000000), drop(2, 512)} {
			fails(t, p, c, api.ErrState)
		}
		for _, c := range append(read(2, -1), setRoot(-1), setRoot(2001), free(-1), free(0), free(1), free(6)) {
			fails(t, p, c, api.ErrRange)
		}
		for _, c := range append(read(2, 1), read(4, 1)...) {
			fails(t, p, c, api.ErrCorrupt)
		}
		has(t, "no transaction", p, l...)
		if n := d.Ops() - ops; n > len(l) {
			t.Errorf("%d disk calls", n)
		}
		if named {
			// There is still no savepoint.
			failsWith(t, "Drop", p.Drop(1), api.ErrRange)
			all(t, p.Flush(), p.Finish())
		}
	}
}

// Promise 15.1: the very bytes of a first page.
func TestFormat(t *testing.T) {
	p := opened(t)
	all(t, Format(p))
	has(t, "Format", p, "annxfile"+strings.Repeat("\x00", 504))
	succeeds(t, p, root(), result{})
	frees(t, "Format", p)
	all(t, Format(p), p.Commit())
	has(t, "Commit", p, firstPage(0, 0, 0))
}

// Promise 15.1: Format of a file that has pages already writes nothing.
func TestFormatAgain(t *testing.T) {
	for _, l := range [][]string{
		{firstPage(0, 0, 0)},
		{firstPage(0, 0, 7), zeros},
		{firstPage(2, 1, 7), page(0, "")},
		{firstPage(9, 9, 1<<32-1), zeros},
		{"annxfile" + strings.Repeat("\xff", 504)},
	} {
		p := opened(t, l...)
		untouched(t, "Format", p, api.OK, func() api.Errno { return Format(p) })
	}
}

// Promise 15.1: which roots there are, and what else is in the first page.
func TestRoot(t *testing.T) {
	for _, n := range []int{0, 1, 2, 255, 256, 1999, 2000} {
		p := opened(t, firstPage(2, 1, 5), page(0, ""))
		all(t, SetRoot(p, n))
		has(t, "SetRoot", p, firstPage(2, 1, n), page(0, ""))
		succeeds(t, p, root(), result{n: n})
		frees(t, "SetRoot", p, 2)
		if !p.Changed() {
			t.Error("not Changed")
		}
	}
	p := opened(t, firstPage(2, 1, 5), page(0, ""))
	for _, n := range []int{-1 << 63, -2000, -1, 2001, 2002, 1 << 31, 1 << 32, 1<<63 - 1} {
		untouched(t, fmt.Sprint("SetRoot ", n), p, api.ErrRange, func() api.Errno { return SetRoot(p, n) })
	}
	// It is written also if it is the same one.
	all(t, SetRoot(p, 5))
	if !p.Changed() {
		t.Error("not Changed")
	}
	// What a page has is returned, and what SetRoot does not concern is kept.
	for _, n := range []int{2001, 1 << 24, 1<<32 - 1} {
		p := opened(t, firstPage(1<<32-1, 1<<31, n))
		succeeds(t, p, root(), result{n: n})
		all(t, SetRoot(p, 1))
		has(t, "SetRoot", p, firstPage(1<<32-1, 1<<31, 1))
	}
}

// Promise 15.2: Alloc with no free page, with one, and with several.
func TestAlloc(t *testing.T) {
	p := opened(t, firstPage(0, 0, 7))
	for n := 2; n < 6; n++ {
		succeeds(t, p, alloc(), result{n: n})
	}
	has(t, "no free page", p, firstPage(0, 0, 7), zeros, zeros, zeros, zeros)

	p = opened(t, firstPage(3, 1, 7), page(0, "x"), "\x00\x00\x00\x00"+strings.Repeat("y", 508))
	succeeds(t, p, alloc(), result{n: 3})
	has(t, "one free page", p, firstPage(0, 0, 7), page(0, "x"), zeros)
	succeeds(t, p, alloc(), result{n: 4})
	has(t, "no more free page", p, firstPage(0, 0, 7), page(0, "x"), zeros, zeros)

	p = opened(t, firstPage(3, 3, 7), page(4, ""), page(2, ""), page(0, ""), page(0, "x"))
	for _, c := range []struct{ n, first, free int }{{3, 2, 2}, {2, 4, 1}, {4, 0, 0}} {
		succeeds(t, p, alloc(), result{n: c.n})
		if s := contents(t, p); s[0] != firstPage(c.first, c.free, 7) || s[c.n-1] != zeros {
			t.Errorf("after Alloc of %d: %.20q", c.n, s[0])
		}
	}
	has(t, "several free pages", p, firstPage(0, 0, 7), zeros, zeros, zeros, page(0, "x"))
	succeeds(t, p, alloc(), result{n: 6})
}

// Promise 15.2: a file that is full.
func TestFull(t *testing.T) {
	l := slices.Repeat([]string{page(0, "x")}, 2000)
	l[0] = firstPage(2000, 2, 7)
	l[1999] = page(5, "")
	p := opened(t, l...)
	untouched(t, "more than is free", p, api.ErrFull, func() api.Errno {
		n, err := Put(p, text(1017))
		if n != 0 {
			t.Errorf("page %d", n)
		}
		return err
	})
	untouched(t, "much more than there can be", p, api.ErrFull, func() api.Errno { _, err := Put(p, text(3000000)); return err })
	succeeds(t, p, alloc(), result{n: 2000})
	succeeds(t, p, put(508), result{n: 5})
	for _, c := range []call{alloc(), put(1)} {
		untouched(t, c.what, p, api.ErrFull, func() api.Errno { r, err := c.do(p); return errFor(t, r, err) })
	}
	frees(t, "full", p)
	all(t, Free(p, 2000), Free(p, 2))
	fails(t, p, free(2001), api.ErrRange)
	succeeds(t, p, put(1016), result{n: 2000})
	fails(t, p, alloc(), api.ErrFull)
	all(t, p.Rollback())
	for _, c := range []call{alloc(), put(1), put(1016), put(1017)} {
		fails(t, p, c, api.ErrState)
	}
	has(t, "after Rollback", p, l...)
}

// errFor returns the error of a call whose other result has to be the zero value.
func errFor(t *testing.T, r result, err api.Errno) api.Errno {
	t.Helper()
	if !r.empty() {
		t.Errorf("result %v", r)
	}
	return err
}

// Promise 15.2: the last page that can be appended.
func TestAlmostFull(t *testing.T) {
	l := slices.Repeat([]string{page(0, "x")}, 1999)
	l[0] = firstPage(3, 1, 7)
	p := opened(t, l...)
	untouched(t, "three pages", p, api.ErrFull, func() api.Errno { _, err := Put(p, text(1017)); return err })
	succeeds(t, p, put(1016), result{n: 2000})
	succeeds(t, p, pagesOf(2000, 1016), result{l: []int{2000, 3}})
	fails(t, p, alloc(), api.ErrFull)
	fails(t, p, put(1), api.ErrFull)
}

// Promise 15.2: pages behind the 2000th one exist, and cannot be written.
func TestMoreThanFull(t *testing.T) {
	l := slices.Repeat([]string{page(0, "x")}, 2003)
	l[0] = firstPage(2003, 1, 7)
	p := opened(t, l...)
	succeeds(t, p, pagesOf(2002, 1), result{l: []int{2002}})
	frees(t, "2003 pages", p, 2003)
	for _, c := range []call{alloc(), put(1), free(2001), drop(2002, 1)} {
		untouched(t, c.what, p, api.ErrFull, func() api.Errno { r, err := c.do(p); return errFor(t, r, err) })
	}
	untouched(t, "Free", p, api.ErrRange, func() api.Errno { return Free(p, 2004) })
}

// Promise 15.2: which pages can be free, and what they are then.
func TestFree(t *testing.T) {
	l := []string{firstPage(0, 0, 7), page(1, text(508)), page(2, "x"), page(9, "y"), strings.Repeat("z", 512)}
	p := opened(t, l...)
	for _, n := range []int{-1 << 63, -1, 0, 1, 6, 7, 2000, 2001, 1 << 32, 1<<32 + 2, 1<<63 - 1} {
		untouched(t, fmt.Sprint("Free ", n), p, api.ErrRange, func() api.Errno { return Free(p, n) })
	}
	all(t, Free(p, 5))
	has(t, "one", p, firstPage(5, 1, 7), l[1], l[2], l[3], page(0, ""))
	frees(t, "one", p, 5)
	all(t, Free(p, 2))
	has(t, "two", p, firstPage(2, 2, 7), page(5, ""), l[2], l[3], page(0, ""))
	frees(t, "two", p, 2, 5)
	all(t, Free(p, 3), Free(p, 4))
	has(t, "all", p, firstPage(4, 4, 7), page(5, ""), page(2, ""), page(3, ""), page(0, ""))
	frees(t, "all", p, 4, 3, 2, 5)
	succeeds(t, p, alloc(), result{n: 4})
	frees(t, "after Alloc", p, 3, 2, 5)
}

// Promise 15.2: free pages that cannot be correct.
func TestFreesCorrupt(t *testing.T) {
	for _, c := range []struct {
		what string
		l    []string
	}{
		{"one less", []string{firstPage(2, 1, 7), page(3, ""), page(0, "")}},
		{"one more", []string{firstPage(2, 3, 7), page(3, ""), page(0, "")}},
		{"many more", []string{firstPage(2, 1<<32-1, 7), page(3, ""), page(0, "")}},
		{"none, and no number", []string{firstPage(2, 0, 7), page(3, ""), page(0, "")}},
		{"a number, and none", []string{firstPage(0, 2, 7), page(3, ""), page(0, "")}},
		{"the first page first", []string{firstPage(1, 1, 7), page(0, ""), page(0, "")}},
		{"page 4 of 3 first", []string{firstPage(4, 1, 7), page(0, ""), page(0, "")}},
		{"a great one first", []string{firstPage(1<<32-1, 1, 7), page(0, ""), page(0, "")}},
		{"the first page next", []string{firstPage(2, 2, 7), page(1, ""), page(0, "")}},
		{"page 4 of 3 next", []string{firstPage(2, 2, 7), page(4, ""), page(0, "")}},
		{"page 4 of 3 at the end", []string{firstPage(2, 2, 7), page(3, ""), page(4, "")}},
		{"a great one at the end", []string{firstPage(2, 2, 7), page(3, ""), page(1<<32-1, "")}},
		{"itself, once", []string{firstPage(2, 1, 7), page(2, ""), page(0, "")}},
		{"itself, twice", []string{firstPage(2, 2, 7), page(2, ""), page(0, "")}},
		{"itself, three times", []string{firstPage(3, 3, 7), page(0, ""), page(3, "")}},
		{"a circle of two", []string{firstPage(2, 2, 7), page(3, ""), page(2, "")}},
		{"a circle behind another page", []string{firstPage(4, 3, 7), page(3, ""), page(2, ""), page(2, "")}},
	} {
		p := opened(t, c.l...)
		untouched(t, c.what, p, api.ErrCorrupt, func() api.Errno { r, err := allFrees().do(p); return errFor(t, r, err) })
		succeeds(t, p, root(), result{n: 7})
		all(t, Format(p))
	}
}

// Promise 15.2: what Alloc, Free and Put meet of such pages.
func TestReferences(t *testing.T) {
	for _, c := range []struct {
		what                string
		l                   []string
		alloc, free, putTwo api.Errno
	}{
		{"the first page first", []string{firstPage(1, 1, 7), page(0, "")}, 32, 32, 32},
		{"page 3 of 2 first", []string{firstPage(3, 1, 7), page(0, "")}, 32, 32, 32},
		{"a great one first", []string{firstPage(1<<32-1, 1, 7), page(0, "")}, 32, 32, 32},
		{"more than the file has", []string{firstPage(2, 3, 7), page(0, "")}, 32, 32, 32},
		{"the greatest number", []string{firstPage(2, 1<<32-1, 7), page(0, "")}, 32, 32, 32},
		{"the first page next", []string{firstPage(2, 2, 7), page(1, "")}, 32, 0, 32},
		{"page 3 of 2 next", []string{firstPage(2, 2, 7), page(3, "")}, 32, 0, 32},
		{"itself", []string{firstPage(2, 2, 7), page(2, "")}, 32, 0, 32},
		{"page 4 of 3 at the end", []string{firstPage(2, 2, 7), page(3, ""), page(4, "")}, 0, 0, 32},
		{"a circle", []string{firstPage(2, 3, 7), page(3, ""), page(2, "")}, 0, 0, 32},
		{"no number", []string{firstPage(2, 0, 7), page(0, "")}, 32, 0, 32},
		{"too small a number", []string{firstPage(2, 1, 7), page(3, ""), page(0, "")}, 0, 0, 32},
		{"a number, and none", []string{firstPage(0, 1, 7), page(0, "")}, 0, 0, 0},
	} {
		for i, call := range []call{alloc(), free(2), put(509)} {
			want := []api.Errno{c.alloc, c.free, c.putTwo}[i]
			p := opened(t, c.l...)
			if want == api.OK {
				_, err := call.do(p)
				failsWith(t, c.what+", "+call.what, err, api.OK)
				continue
			}
			untouched(t, c.what+", "+call.what, p, want, func() api.Errno { r, err := call.do(p); return errFor(t, r, err) })
		}
	}
}
