package pager

import (
	"fmt"
	"maps"
	"slices"
	"strings"
	"testing"

	"annexe/api"
	"annexe/disk"
	"annexe/hot"
	"annexe/jread"
	"annexe/super"
)

// files is what a disk has: contents by path.
type files map[string]string

// made returns a disk of full capacity with these files, all of them durable.
func made(t *testing.T, l files) *disk.Disk {
	t.Helper()
	d := disk.New(-1)
	for _, name := range slices.Sorted(maps.Keys(l)) {
		all(t, d.Create(name), d.Write(name, 0, l[name]), d.Sync(name))
	}
	all(t, d.DirSync())
	return d
}

// all requires that no call has failed.
func all(t *testing.T, errs ...api.Errno) {
	t.Helper()
	for i, err := range errs {
		if err != api.OK {
			t.Fatalf("call %d of %d: error %d", i+1, len(errs), err)
		}
	}
}

func failsWith(t *testing.T, what string, err, want api.Errno) {
	t.Helper()
	if err != want {
		t.Errorf("%s: error %d, want %d", what, err, want)
	}
}

// seen returns what is visible of a disk.
func seen(d *disk.Disk) files {
	l := files{}
	for _, name := range d.Names() {
		l[name], _ = d.Content(name)
	}
	return l
}

// sheet returns a page of a byte; of returns several, a byte each.
func sheet(c byte) string { return strings.Repeat(string([]byte{c}), api.PageSize) }

func of(s string) string {
	var b strings.Builder
	for i := range len(s) {
		b.WriteString(sheet(s[i]))
	}
	return b.String()
}

// letters returns a byte for each page: the one of which it consists, or a
// question mark.
func letters(s string) string {
	var b strings.Builder
	for at := 0; at+api.PageSize <= len(s); at += api.PageSize {
		c := s[at]
		if s[at:at+api.PageSize] != sheet(c) {
			c = '?'
		}
		b.WriteByte(c)
	}
	return b.String()
}

// read returns a byte for each page of a pager.
func read(t *testing.T, p *Pager) string {
	t.Helper()
	n, err := p.Pages()
	all(t, err)
	var b strings.Builder
	for i := range n {
		s, err := p.Read(i + 1)
		all(t, err)
		if len(s) != api.PageSize {
			t.Fatalf("page %d has %d bytes", i+1, len(s))
		}
		b.WriteString(s)
	}
	return letters(b.String())
}

// holds requires that a pager has exactly these pages.
func holds(t *testing.T, what string, p *Pager, want string) {
	t.Helper()
	if got := read(t, p); got != want {
		t.Errorf("%s: pages %.40q, want %.40q", what, got, want)
	}
	for _, n := range []int{-1, 0, len(want) + 1, len(want) + 2} {
		if s, err := p.Read(n); s != "" || err != api.ErrRange {
			t.Errorf("%s: page %d: %d bytes, error %d", what, n, len(s), err)
		}
	}
}

// opened opens a.
func opened(t *testing.T, d *disk.Disk, keep int) *Pager {
	t.Helper()
	p, err := Open(d, "a", keep)
	all(t, err)
	if p == nil {
		t.Fatal("there is no pager")
	}
	return p
}

// begun opens a on a disk where it has some pages, and begins a transaction.
func begun(t *testing.T, pages string, keep int) (*Pager, *disk.Disk) {
	t.Helper()
	d := made(t, files{"a": of(pages), "boss": ""})
	p := opened(t, d, keep)
	all(t, p.Begin())
	return p, d
}

// write writes a byte to each of several pages: the n-th one to page n, unless
// it is a dot.
func write(t *testing.T, p *Pager, s string) {
	t.Helper()
	for i := range len(s) {
		if s[i] != '.' {
			all(t, p.Write(i+1, sheet(s[i])))
		}
	}
}

// segment returns a segment with page i + 1 for the i-th byte that is not a
// dot, as it was in a file of so many pages.
func segment(s string, count int) string {
	var l []jread.Record
	for i := range len(s) {
		if s[i] != '.' {
			l = append(l, jread.Record{Page: i + 1, Data: sheet(s[i])})
		}
	}
	part, err := jread.Part(l, count, 7)
	if err != api.OK {
		panic(err)
	}
	return part
}

func trailer(name string) string {
	s, err := super.Trailer(name)
	if err != api.OK {
		panic(err)
	}
	return s
}

// Promise 14.1: a file that is created, and is durable then.
func TestOpenCreates(t *testing.T) {
	for _, file := range []string{
		"a", "z", "A", "0", ".", "_", "-", "/", "j", "-jj", "a-J", "a-j-", "a-jx", "-s1", "a-s", "a-s0", "a-s01", "a-s1x", "s1",
		strings.Repeat("f", 30), "d/" + strings.Repeat("f", 28),
	} {
		d := made(t, files{"b": "b"})
		p, err := Open(d, file, 3)
		failsWith(t, file, err, api.OK)
		holds(t, file, p, "")
		for range 2 {
			if l := seen(d); !maps.Equal(l, files{"b": "b", file: ""}) {
				t.Errorf("%s: %v", file, l)
			}
			d.Restart(nil)
		}
		if p.Active() || p.Changed() {
			t.Errorf("%s: a transaction", file)
		}
	}
}

// Promise 14.1: the files that are not opened.
func TestOpenNames(t *testing.T) {
	long := strings.Repeat("f", 31)
	for _, file := range []string{
		"-j", "a-j", "a-j-j", "-s1-j", strings.Repeat("f", 28) + "-j", // journals
		"a-s1", "a-s9", "a-s1000", "a-s20000", "a-s1-s2", "-s-s1", "a-j-s1", "a-s9223372036854775807", // super-journals
		long, long + "-j", long + "-s1", "d/" + strings.Repeat("f", 29), strings.Repeat("f", 40), strings.Repeat("f", 1000), // too long
		"", " ", "a b", "a\x00", "a\n", "é", "\xff", "a:", "a*", // no paths
	} {
		for _, d := range []*disk.Disk{nil, made(t, files{"b": "b"})} {
			p, err := Open(d, file, 3)
			want := api.ErrName
			if d == nil && !strings.HasSuffix(file, "-j") && len(file) <= 30 && !strings.Contains(file, "-s") {
				// Here, the error is that of creating the file.
				want = api.ErrState
			}
			failsWith(t, file, err, want)
			if p != nil {
				t.Errorf("%q: a pager", file)
			}
			if d != nil && !maps.Equal(seen(d), files{"b": "b"}) {
				t.Errorf("%q: %v", file, seen(d))
			}
		}
	}
	// A path of a file that exists is not opened either if it is too long.
	d := made(t, files{long: ""})
	_, err := Open(d, long, 3)
	failsWith(t, "31 bytes", err, api.ErrName)
}

// Promise 14.1: the errors of the disk, in their order.
func TestOpenErrors(t *testing.T) {
	_, err := Open(nil, "a", 3)
	failsWith(t, "a nil disk", err, api.ErrState)

	full := disk.New(-1)
	for i := range api.MaxFiles {
		all(t, full.Create(fmt.Sprint("f", i)))
	}
	_, err = Open(full, "a", 3)
	failsWith(t, "a disk with 60 files", err, api.ErrFull)
	_, err = Open(full, "f7", 3)
	failsWith(t, "one of 60 files", err, api.OK)

	down := made(t, files{"a": of("x")})
	down.CrashAt(down.Ops() + 1)
	failsWith(t, "a crash", down.DirSync(), api.ErrCrash)
	for _, file := range []string{"a", "b"} {
		_, err = Open(down, file, 3)
		failsWith(t, "a machine that is down, "+file, err, api.ErrCrash)
	}
	_, err = Open(down, "a-j", 3)
	failsWith(t, "a machine that is down, a-j", err, api.ErrName)

	var d disk.Disk
	p, err := Open(&d, "a", 3)
	failsWith(t, "a disk without capacity", err, api.OK)
	all(t, p.Begin(), p.Write(1, sheet('x')))
	failsWith(t, "a disk without capacity, Commit", p.Commit(), api.ErrQuota)
	all(t, p.Rollback())
	holds(t, "a disk without capacity", p, "")
}

// Promise 14.1: each disk call of Open fails in turn; a later Open does what
// was not done.
func TestOpenFails(t *testing.T) {
	for _, l := range []files{
		{}, {"a": of("xyz")}, {"a": of("xyz"), "a-j": segment("123", 3)}, {"a-j": segment("123", 3)}, {"a": of("123"), "a-j": ""}, {"a": of("123"), "a-s1": "torn"},
	} {
		want := read(t, opened(t, made(t, l), 3))
		for _, code := range anyErrors() {
			for n := 1; ; n++ {
				d := made(t, l)
				at := d.Ops() + n
				d.Faults([]disk.Fault{{At: at, Err: code}})
				p, err := Open(d, "a", 3)
				if d.Ops() < at {
					all(t, err)
					break
				}
				what := fmt.Sprintf("error %d at call %d", code, n)
				failsWith(t, what, err, code)
				if p != nil {
					t.Errorf("%s: a pager", what)
				}
				d.Faults(nil)
				holds(t, what, opened(t, d, 3), want)
			}
		}
	}
}

// Promise 14.1: a file that exists, and one that has to be restored.
func TestOpenExists(t *testing.T) {
	for _, c := range []struct {
		what string
		l    files
		want string
	}{
		{"an empty file", files{"a": ""}, ""},
		{"less than a page", files{"a": sheet('x')[:511]}, ""},
		{"a byte", files{"a": "x"}, ""},
		{"a page", files{"a": of("x")}, "x"},
		{"a page and a byte", files{"a": of("x") + "y"}, "x"},
		{"two pages but a byte", files{"a": of("xy")[:1023]}, "x"},
		{"two pages", files{"a": of("xy")}, "xy"},
		{"2000 pages", files{"a": of(strings.Repeat("xy", 1000))}, strings.Repeat("xy", 1000)},
		{"2001 pages", files{"a": of(strings.Repeat("xyz", 667))}, strings.Repeat("xyz", 667)},
		{"the greatest file", files{"a": strings.Repeat("x", api.MaxBytes)}, strings.Repeat("x", api.MaxBytes/api.PageSize)},
		{"a Hot file", files{"a": of("xyz"), "a-j": segment("12", 2)}, "12"},
		{"a Hot file, longer", files{"a": of("xy") + "torn", "a-j": segment("..34", 4)}, "xy34"},
		{"a Hot file, two segments", files{"a": of("xyz"), "a-j": segment("1", 3) + segment("..3", 3)}, "1y3"},
		{"a Hot file that does not exist", files{"a-j": segment("12", 2)}, "12"},
		{"a Hot file and its super-journal", files{"a": of("xyz"), "a-j": segment("12", 2) + trailer("boss"), "boss": ""}, "12"},
		{"a Stale file", files{"a": of("xyz"), "a-j": segment("12", 2) + trailer("boss")}, "xyz"},
		{"a Stale file, torn", files{"a": of("xyz"), "a-j": segment("12", 2)[:900]}, "xyz"},
		{"a Stale file that does not exist", files{"a-j": "x"}, ""},
	} {
		d := made(t, c.l)
		holds(t, c.what, opened(t, d, 3), c.want)
		if _, there := d.Size("a-j"); there {
			t.Errorf("%s: there is a journal", c.what)
		}
		d.Restart(nil)
		ops := d.Ops()
		holds(t, c.what+", again", opened(t, d, 3), c.want)
		if before := d.Ops() - ops; before < 1 {
			t.Errorf("%s: %d disk calls", c.what, before)
		}
	}
}

// Promise 14.1: opening a Clean file once more does not write anything.
func TestOpenAgain(t *testing.T) {
	l := files{"a": of("xy") + "more", "b": "b", "b-j": segment("1", 1), "b-s1": "x"}
	d := made(t, l)
	for range 3 {
		holds(t, "a Clean file", opened(t, d, 3), "xy")
		if !maps.Equal(seen(d), l) {
			t.Errorf("%d files", len(seen(d)))
		}
	}
}

// ahead returns how many pages of a pager are not in the file as they are.
func ahead(t *testing.T, p *Pager, d *disk.Disk) int {
	t.Helper()
	now := read(t, p)
	content, _ := d.Content("a")
	there := letters(content)
	n := 0
	for i := range len(now) {
		if i >= len(there) || now[i] != there[i] {
			n++
		}
	}
	return n
}

// Promise 14.1: so many dirty pages are held, and not more.
func TestKeep(t *testing.T) {
	for _, c := range []struct{ keep, most int }{
		{-1 << 63, 2}, {-1, 2}, {0, 2}, {1, 2}, {2, 2}, {3, 3}, {4, 4}, {12, 12}, {30, 30}, {1<<63 - 1, 40},
	} {
		p, d := begun(t, strings.Repeat("x", 20), c.keep)
		for i := range 40 {
			l := seen(d)
			all(t, p.Write(i+1, sheet('y')))
			if i < c.most && !maps.Equal(seen(d), l) {
				t.Errorf("keep %d: the disk is written with page %d", c.keep, i+1)
			}
			if n := ahead(t, p, d); n > c.most {
				t.Errorf("keep %d: %d pages are held", c.keep, n)
			}
		}
		// A page that is held can be written again.
		l := seen(d)
		all(t, p.Write(40, sheet('z')))
		if !maps.Equal(seen(d), l) {
			t.Errorf("keep %d: the disk is written with the same page", c.keep)
		}
		all(t, p.Commit())
		holds(t, fmt.Sprint("keep ", c.keep), p, strings.Repeat("y", 39)+"z")
	}
}

// Promise 14.2: pages are read again before and after Commit, more of them than
// are held.
func TestReadMany(t *testing.T) {
	s := strings.Repeat("abcdefghijklmnopqrstuvwxyz", 4)
	for _, keep := range []int{2, 3, 5, 12, 200} {
		p, d := begun(t, "", keep)
		for i := range len(s) {
			all(t, p.Write(i+1, sheet(s[i])))
			if c, err := p.Read(i/2 + 1); c != sheet(s[i/2]) || err != api.OK {
				t.Errorf("page %d: error %d", i/2+1, err)
			}
		}
		holds(t, "before Commit", p, s)
		all(t, p.Commit())
		holds(t, "after Commit", p, s)
		content, _ := d.Content("a")
		if content != of(s) {
			t.Error("the file is not what has been committed")
		}
		d.Restart(nil)
		holds(t, "opened again", opened(t, d, 2), s)
	}
}

// Promise 14.2: a page is read as it was last written.
func TestReadLast(t *testing.T) {
	p, _ := begun(t, "xyz", 2)
	for _, s := range []string{"a", "b", ".c", "..d", "e", "ee", "efg", "...h", "i"} {
		write(t, p, s)
		want := []byte(read(t, p))
		for i := range len(s) {
			if s[i] != '.' {
				want[i] = s[i]
			}
		}
		holds(t, s, p, string(want))
	}
	holds(t, "all of it", p, "ifgh")
}

// Promise 14.2: there is no such page.
func TestReadRange(t *testing.T) {
	for _, pages := range []string{"", "x", "xyz", strings.Repeat("x", 1999), strings.Repeat("x", 2000)} {
		p, _ := begun(t, pages, 3)
		for _, n := range []int{-1 << 63, -2000, -1, 0, len(pages) + 1, len(pages) + 2, 2001, 2002, 1 << 32, 1<<63 - 1} {
			if s, err := p.Read(n); s != "" || err != api.ErrRange {
				t.Errorf("page %d of %d: %d bytes, error %d", n, len(pages), len(s), err)
			}
		}
	}
}

// Promise 14.2: a nil pager; and one that Open did not return does not panic.
func TestNil(t *testing.T) {
	for i, err := range everyCall(nil) {
		failsWith(t, fmt.Sprint("call ", i), err, api.ErrState)
	}
	var p *Pager
	p.Lose()
	if n, _ := p.Pages(); n != 0 || p.Active() || p.Changed() {
		t.Errorf("%d pages, %v, %v", n, p.Active(), p.Changed())
	}
	if s, _ := p.Read(1); s != "" {
		t.Errorf("%d bytes", len(s))
	}
	if k, _ := p.Save(); k != 0 {
		t.Errorf("savepoint %d", k)
	}
	var zero Pager
	everyCall(&zero)
	zero.Lose()
	everyCall(&zero)
}

// everyCall makes each call that returns an error, and returns the errors.
func everyCall(p *Pager) []api.Errno {
	_, pages := p.Pages()
	_, read := p.Read(1)
	_, save := p.Save()
	return []api.Errno{
		pages, read, save, p.Begin(), p.Write(1, sheet('x')), p.Back(1), p.Drop(1),
		p.Journal(), p.Name("boss"), p.Flush(), p.Finish(), p.Commit(), p.Rollback(),
	}
}

// anyErrors returns errors that a disk gives.
func anyErrors() []api.Errno {
	return []api.Errno{api.ErrIO, api.ErrQuota, api.ErrNone, api.ErrTwice, api.ErrFull, api.ErrRange, api.ErrState, api.ErrCrash, api.ErrName, 99, -1}
}

// Promise 14.2: a file that something else has made shorter.
func TestReadShort(t *testing.T) {
	d := made(t, files{"a": of("xyz")})
	p := opened(t, d, 2)
	all(t, d.Truncate("a", 700))
	if s, err := p.Read(2); s != "" || err != api.ErrCorrupt {
		t.Errorf("%d bytes, error %d", len(s), err)
	}
	all(t, d.Delete("a"))
	if s, err := p.Read(3); s != "" || err != api.ErrNone {
		t.Errorf("%d bytes, error %d", len(s), err)
	}
}

// state returns the state of a, as package hot sees it.
func state(t *testing.T, d *disk.Disk) int {
	t.Helper()
	n, err := hot.State(d, "a")
	all(t, err)
	return n
}
