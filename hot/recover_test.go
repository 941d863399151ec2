package hot

import (
	"fmt"
	"maps"
	"strings"
	"testing"

	"annexe/api"
	"annexe/disk"
)

// with returns files and some more, or with other contents; without returns
// them without some paths.
func with(l, more files) files {
	r := maps.Clone(l)
	if r == nil {
		r = files{}
	}
	maps.Copy(r, more)
	return r
}

func without(l files, names ...string) files {
	r := with(l, nil)
	for _, name := range names {
		delete(r, name)
	}
	return r
}

// recovers requires that Recover makes a disk hold some files, all of them
// durable, that the file is Clean, and that a second Recover changes nothing.
func recovers(t *testing.T, what string, d *disk.Disk, file string, want files) {
	t.Helper()
	all(t, Recover(d, file))
	holdsFirmly(t, what, d, want)
	stateIs(t, what, d, file, Clean)
	all(t, Recover(d, file))
	holdsFirmly(t, what+", a second time", d, want)
}

// callsOf returns how many disk calls a Recover makes.
func callsOf(t *testing.T, d *disk.Disk, file string) int {
	t.Helper()
	ops := d.Ops()
	all(t, Recover(d, file))
	return d.Ops() - ops
}

// Promise 13.3: a Clean file stays as it is, as do all other files.
func TestRecoverClean(t *testing.T) {
	for _, l := range []files{
		nil, {"a": ""}, {"a": "abc"}, {"a": pages("123")}, {"b": "x"}, {"a": pages("1"), "b-j": segment("x", 1), "c-j": naming("gone"), "d-j": "", "-j": segment("x", 1)},
	} {
		recovers(t, "a Clean file", made(t, l), "a", l)
		// The directory is synced, and that is all.
		if n := callsOf(t, made(t, l), "a"); n != 1 {
			t.Errorf("a Clean file: %d disk calls", n)
		}
	}
}

// Promise 13.3: a Hot file gets its pages again, and their number.
func TestRecoverHot(t *testing.T) {
	for _, c := range []struct {
		what, journal, now, want string
	}{
		{"the same pages", segment("123", 3), pages("123"), pages("123")},
		{"all pages", segment("123", 3), pages("xyz"), pages("123")},
		{"one page", segment(".2", 3), pages("xyz"), pages("x2z")},
		{"the first and the last page", segment("1.3", 3), pages("xyz"), pages("1y3")},
		{"no page", segment("", 3), pages("xyz"), pages("xyz")},
		{"a file that was shorter", segment("1", 1), pages("xyz"), pages("1")},
		{"a file that was shorter, and the same", segment("", 2), pages("xyz"), pages("xy")},
		{"a file that was longer", segment("12345", 5), pages("xyz"), pages("12345")},
		{"a file that was longer, with a gap", segment("1...5", 5), pages("xyz"), pages("1yz\x005")},
		{"a file that was longer, of zero bytes", segment("", 5), pages("xyz"), pages("xyz\x00\x00")},
		{"a file that was empty", segment("", 0), pages("xyz"), ""},
		{"a file that was empty, and pages", segment("12", 0), pages("xyz"), ""},
		{"pages behind the last one", segment("1234", 2), pages("xyz"), pages("12")},
		{"a file that is empty", segment("12", 2), "", pages("12")},
		{"a file that is empty and was", segment("", 0), "", ""},
		{"a page that is not whole", segment("12", 3), pages("xy") + "zzz", pages("12") + "zzz" + page(0)[3:]},
		{"a page that is not whole, and was not there", segment("1", 2), pages("xy") + "zzz", pages("1y")},
		{"half a page", segment(".2", 2), page('x')[:99], page('x')[:99] + page(0)[99:] + page('2')},
		{"two segments", segment("1", 3) + segment("..3", 3), pages("xyz"), pages("1y3")},
		{"the same page twice", segment("1", 3) + segment("56.", 3), pages("xyz"), pages("16z")},
		{"a segment and a torn one", segment("1", 3) + segment(".2", 3)[:400], pages("xyz"), pages("1yz")},
		{"a segment and one of another number of pages", segment("1", 3) + segment(".2", 2), pages("xyz"), pages("1yz")},
		{"many pages", segment(strings.Repeat("1.", 1000), 2000), pages(strings.Repeat("x", 1999)), pages(strings.Repeat("1x", 999) + "1\x00")},
		{"a super-journal", segment("12", 2) + trailer("s"), pages("xyz"), pages("12")},
	} {
		others := files{"s": "s", "b": pages("xyz"), "b-j": c.journal, "a-": "x", "c-j": ""}
		l := with(others, files{"a": c.now, "a-j": c.journal})
		recovers(t, c.what, made(t, l), "a", with(others, files{"a": c.want}))
	}
}

// Promise 13.3: a Hot file that does not exist is created.
func TestRecoverCreates(t *testing.T) {
	for _, c := range []struct{ what, journal, want string }{
		{"all pages", segment("123", 3), pages("123")},
		{"some pages", segment(".2", 3), pages("\x002\x00")},
		{"no pages", segment("", 3), pages("\x00\x00\x00")},
		{"an empty file", segment("", 0), ""},
		{"a super-journal", segment("1", 1) + trailer("s"), page('1')},
	} {
		others := files{"s": "", "b": "b"}
		recovers(t, c.what, made(t, with(others, files{"a-j": c.journal})), "a", with(others, files{"a": c.want}))
	}
}

// Promise 13.3: the journal of a Stale file is deleted, and the file stays as
// it is. The first journal is the one of the chapter's example.
func TestRecoverStale(t *testing.T) {
	whole := segment("x", 1)
	for _, journal := range []string{
		whole[:31], "", "x", whole[:32], whole[:len(whole)-1], "\x00" + whole, trailer("s"), whole[:100] + trailer("s"), strings.Repeat("\x00", 5000),
		whole + trailer("gone"), segment("", 0) + trailer("gone"), whole + whole + trailer("\x00"),
	} {
		for _, l := range []files{nil, {"a": ""}, {"a": "abc"}, {"a": pages("123")}} {
			l = with(l, files{"s": "", "b-j": journal, "b": pages("12")})
			d := made(t, with(l, files{"a-j": journal}))
			// The directory is synced twice, and the journal is read, synced and deleted.
			recovers(t, "a Stale file", d, "a", l)
			if n := callsOf(t, made(t, with(l, files{"a-j": journal})), "a"); n != 5 {
				t.Errorf("a Stale file: %d disk calls", n)
			}
		}
	}
}

// Promise 13.3: what is equal is not written again.
func TestRecoverWritesDifferences(t *testing.T) {
	l := files{"a": pages("12345"), "a-j": segment("12345", 5)}
	least := callsOf(t, made(t, l), "a")
	for now, more := range map[string]int{
		pages("12345"): 0, pages("x2345"): 1, pages("1234x"): 1, pages("x23x5"): 2, pages("xyzuv"): 5, pages("123456"): 1, pages("x23456"): 2, pages("123"): 2,
		pages("12345") + "x": 1, pages("1234") + page('5')[1:]: 1,
	} {
		if n := callsOf(t, made(t, with(l, files{"a": now})), "a"); n != least+more {
			t.Errorf("%s: %d disk calls, want %d", brief(files{"a": now}), n, least+more)
		}
	}
}

// Promise 13.3: what is visible counts: changes that are not durable become so, or are undone.
func TestRecoverPending(t *testing.T) {
	journal := segment("1", 1)
	for _, c := range []struct {
		what string
		do   func(d *disk.Disk) []api.Errno
		want files
	}{
		{"a journal that is not durable", func(d *disk.Disk) []api.Errno {
			return []api.Errno{d.Create("a-j"), d.Write("a-j", 0, journal), d.Write("a", 0, page('x'))}
		}, files{"a": page('1'), "s": ""}},
		{"a journal that has been deleted", func(d *disk.Disk) []api.Errno {
			return []api.Errno{d.Create("a-j"), d.Write("a-j", 0, journal), d.Sync("a-j"), d.DirSync(), d.Delete("a-j")}
		}, files{"a": pages("xy"), "s": ""}},
		{"a file that has been deleted", func(d *disk.Disk) []api.Errno {
			return []api.Errno{d.Create("a-j"), d.Write("a-j", 0, journal), d.Delete("a")}
		}, files{"a": page('1'), "s": ""}},
		{"contents that are not durable", func(d *disk.Disk) []api.Errno {
			return []api.Errno{d.Create("a-j"), d.Write("a-j", 0, journal), d.Write("a", 0, page('1')), d.Truncate("a", api.PageSize)}
		}, files{"a": page('1'), "s": ""}},
		{"a super-journal that has been deleted", func(d *disk.Disk) []api.Errno {
			return []api.Errno{d.Create("a-j"), d.Write("a-j", 0, journal+trailer("s")), d.Sync("a-j"), d.DirSync(), d.Delete("s")}
		}, files{"a": pages("xy")}},
	} {
		d := made(t, files{"a": pages("xy"), "s": ""})
		all(t, c.do(d)...)
		recovers(t, c.what, d, "a", c.want)
	}
}

// Promise 13.3: paths that the disk does not take have neither a journal nor contents.
func TestRecoverPaths(t *testing.T) {
	l := files{"a": "a", "a-j": segment("x", 1), "b-j": ""}
	for _, file := range []string{"", "-", "\x00", " ", "é", "a b", "a\n", "a-j", strings.Repeat("x", 39), strings.Repeat("x", 41), strings.Repeat("x", 100000)} {
		recovers(t, "a path", made(t, l), file, l)
	}

	// The empty string may have a journal, but cannot be created.
	l["-j"] = segment("x", 1)
	d := made(t, l)
	failsWith(t, "the empty string", Recover(d, ""), api.ErrName)
	holdsFirmly(t, "the empty string", d, l)
	l["-j"] = ""
	recovers(t, "the empty string, Stale", made(t, l), "", without(l, "-j"))

	long := strings.Repeat("x", 38)
	recovers(t, "a long path", made(t, files{long + "-j": segment("1", 1)}), long, files{long: page('1')})
	recovers(t, "a path like that of a journal", made(t, files{"a-j": page('x'), "a-j-j": segment("1", 1), "a": "a"}), "a-j", files{"a-j": page('1'), "a": "a"})
}

// Promise 13.3: a disk without room for the file, or for its path: the journal stays.
func TestRecoverFull(t *testing.T) {
	l := files{"a-j": segment("1", 1)}
	for i := range api.MaxFiles - 1 {
		l[fmt.Sprint("f", i)] = ""
	}
	d := made(t, l)
	failsWith(t, "too many files", Recover(d, "a"), api.ErrFull)
	holdsFirmly(t, "too many files", d, l)
	all(t, d.Delete("f7"))
	recovers(t, "a file less", d, "a", without(with(l, files{"a": page('1')}), "a-j", "f7"))

	journal := segment("123", 3)
	d = disk.New(len(journal) + 3*api.PageSize + 9)
	lay(t, d, files{"a-j": journal, "a": page('x'), "b": strings.Repeat("b", 10)})
	failsWith(t, "a byte too many", Recover(d, "a"), api.ErrQuota)
	stateIs(t, "a byte too many", d, "a", Hot)
	all(t, d.Truncate("b", 9), d.Sync("b"))
	recovers(t, "a byte less", d, "a", files{"a": pages("123"), "b": strings.Repeat("b", 9)})

	// Of a disk that is full already, nothing more is needed.
	journal = segment("12", 2)
	d = disk.New(len(journal) + 5*api.PageSize)
	lay(t, d, files{"a-j": journal, "a": pages("vwxyz")})
	recovers(t, "a full disk", d, "a", files{"a": pages("12")})
}

// Promise 13.3: a nil disk.
func TestRecoverNil(t *testing.T) {
	for _, file := range []string{"", "a", "a-j", "a-s1"} {
		failsWith(t, "a nil disk", Recover(nil, file), api.ErrState)
	}
}
