package disk

import (
	"fmt"
	"maps"
	"math"
	"slices"
	"strings"
	"testing"

	"annexe/api"
)

// made returns a disk of full capacity with these files, all of them durable.
func made(t *testing.T, contents map[string]string) *Disk {
	t.Helper()
	d := New(-1)
	for name, s := range contents {
		all(t, d.Create(name), d.Write(name, 0, s), d.Sync(name))
	}
	all(t, d.DirSync())
	return d
}

// full returns a disk with MaxFiles files, all of them durable.
func full(t *testing.T) *Disk {
	t.Helper()
	d := New(-1)
	for i := range api.MaxFiles {
		all(t, d.Create(numbered(i)))
	}
	all(t, d.DirSync())
	return d
}

func numbered(i int) string { return fmt.Sprintf("f%02d", i) }

// all requires that no call has failed.
func all(t *testing.T, errs ...api.Errno) {
	t.Helper()
	for i, err := range errs {
		if err != api.OK {
			t.Fatalf("call %d of %d: error %d", i+1, len(errs), err)
		}
	}
}

func failsWith(t *testing.T, what string, err, want api.Errno) {
	t.Helper()
	if err != want {
		t.Errorf("%s: error %d, want %d", what, err, want)
	}
}

// holds requires that a disk has exactly these visible files, with these contents.
func holds(t *testing.T, what string, d *Disk, want map[string]string) {
	t.Helper()
	if got := seen(d); !maps.Equal(got, want) {
		t.Errorf("%s: %.200q, want %.200q", what, got, want)
	}
}

// seen returns what is visible of a disk.
func seen(d *Disk) map[string]string {
	got := map[string]string{}
	for _, name := range d.Names() {
		got[name], _ = d.Content(name)
	}
	return got
}

func readIs(t *testing.T, d *Disk, name string, at, n int, want string, wantErr api.Errno) {
	t.Helper()
	if s, err := d.Read(name, at, n); s != want || err != wantErr {
		t.Errorf("Read(%q, %d, %d) = %.40q, error %d, want %.40q, error %d", name, at, n, s, err, want, wantErr)
	}
}

// step is a counted call.
type step struct {
	name string
	do   func(d *Disk) api.Errno
}

// steps returns a call of each kind, each of which is possible on a disk with a file a of at least one byte.
func steps() []step {
	return []step{
		{"Create", func(d *Disk) api.Errno { return d.Create("new") }},
		{"Delete", func(d *Disk) api.Errno { return d.Delete("a") }},
		{"Read", func(d *Disk) api.Errno { return onlyErr(d.Read("a", 0, 9)) }},
		{"Write", func(d *Disk) api.Errno { return d.Write("a", 1, "XYZ") }},
		{"Truncate", func(d *Disk) api.Errno { return d.Truncate("a", 1) }},
		{"Sync", func(d *Disk) api.Errno { return d.Sync("a") }},
		{"DirSync", func(d *Disk) api.Errno { return d.DirSync() }},
	}
}

// impossible returns calls that have no effect or an error of their own, on a disk that has a file a and no file none.
func impossible() []step {
	return []step{
		{"Create of no path", func(d *Disk) api.Errno { return d.Create("") }},
		{"Create of a visible path", func(d *Disk) api.Errno { return d.Create("a") }},
		{"Delete of none", func(d *Disk) api.Errno { return d.Delete("none") }},
		{"Read of none", func(d *Disk) api.Errno { return onlyErr(d.Read("none", 0, 1)) }},
		{"Read at a negative offset", func(d *Disk) api.Errno { return onlyErr(d.Read("a", -1, 1)) }},
		{"Write to none", func(d *Disk) api.Errno { return d.Write("none", 0, "x") }},
		{"Write at a negative offset", func(d *Disk) api.Errno { return d.Write("a", -1, "x") }},
		{"Write of no data", func(d *Disk) api.Errno { return d.Write("a", 9, "") }},
		{"Truncate of none", func(d *Disk) api.Errno { return d.Truncate("none", 0) }},
		{"Truncate to a negative size", func(d *Disk) api.Errno { return d.Truncate("a", -1) }},
		{"Sync of none", func(d *Disk) api.Errno { return d.Sync("none") }},
	}
}

func onlyErr(_ string, err api.Errno) api.Errno { return err }

// Promise 7.1: a new disk is empty and up, without counted calls or faults.
func TestNew(t *testing.T) {
	for _, room := range []int{math.MinInt64, -1, 0, 1, api.MaxBytes, api.MaxBytes + 1, math.MaxInt64} {
		d := New(room)
		if names := d.Names(); len(names) != 0 || d.Ops() != 0 || d.Down() {
			t.Errorf("New(%d): files %q, %d calls, down %v", room, names, d.Ops(), d.Down())
		}
		d.Restart([]int{1, 1, 1})
		holds(t, "a new disk after a Restart", d, nil)
		all(t, d.DirSync(), d.Create("a"), d.Sync("a"), d.Delete("a"))
		if d.Ops() != 4 {
			t.Errorf("%d calls", d.Ops())
		}
	}
}

// Promise 7.1: the capacity, which a disk takes up exactly and no further.
func TestNewCapacity(t *testing.T) {
	for _, c := range []struct{ room, want int }{
		{math.MinInt64, 4000000},
		{-1, 4000000},
		{0, 0},
		{1, 1},
		{4, 4},
		{3999999, 3999999},
		{4000000, 4000000},
		{4000001, 4000000},
		{math.MaxInt64, 4000000},
	} {
		d := New(c.room)
		all(t, d.Create("a"), d.Create("b"), d.Truncate("a", c.want))
		failsWith(t, fmt.Sprintf("New(%d), one byte more", c.room), d.Write("b", 0, "x"), api.ErrQuota)
		failsWith(t, fmt.Sprintf("New(%d), one byte more", c.room), d.Truncate("b", 1), api.ErrQuota)
		if n, _ := d.Size("a"); n != c.want {
			t.Errorf("New(%d): %d bytes, want %d", c.room, n, c.want)
		}
	}
}

// Promise 7.1: disks have nothing in common.
func TestNewTwice(t *testing.T) {
	d, e := New(1), New(1)
	all(t, d.Create("a"), d.Write("a", 0, "x"), d.DirSync())
	d.Faults([]Fault{{1, api.ErrIO}})
	holds(t, "the other disk", e, nil)
	all(t, e.Create("a"), e.Write("a", 0, "y"))
	holds(t, "the first disk", d, map[string]string{"a": "x"})
}

// Promise 7.2: which names are paths.
func TestCreateNames(t *testing.T) {
	const letters = "abcdefghijklmnopqrstuvwxyzABCDEFGHIJKLMNOPQRSTUVWXYZ0123456789._-/"
	for c := range 256 {
		for _, name := range []string{string([]byte{byte(c)}), string([]byte{'a', byte(c), 'b'}), string([]byte{byte(c), 'a'}), string([]byte{'a', byte(c)})} {
			want := api.ErrName
			if strings.IndexByte(letters, byte(c)) >= 0 {
				want = api.OK
			}
			d := New(-1)
			failsWith(t, fmt.Sprintf("Create(%q)", name), d.Create(name), want)
			if got := len(d.Names()) == 1; got != (want == api.OK) {
				t.Errorf("Create(%q): files %q", name, d.Names())
			}
		}
	}
	long := strings.Repeat("p", 40)
	for _, c := range []struct {
		name string
		want api.Errno
	}{
		{"", api.ErrName},
		{long[:39], api.OK},
		{long, api.OK},
		{long + "p", api.ErrName},
		{strings.Repeat("p", 100000), api.ErrName},
		{strings.Repeat("-", 39) + " ", api.ErrName},
		{strings.Repeat("é", 20), api.ErrName},
		{"/", api.OK},
		{"..", api.OK},
		{"a/b//c.d_e-j", api.OK},
	} {
		failsWith(t, fmt.Sprintf("Create(%.50q)", c.name), New(-1).Create(c.name), c.want)
	}
}

// Promise 7.2: a path that is visible already; paths differ in every byte.
func TestCreateTwice(t *testing.T) {
	d := New(-1)
	all(t, d.Create("a"), d.Write("a", 0, "x"))
	failsWith(t, "Create of a visible path", d.Create("a"), api.ErrTwice)
	holds(t, "after it", d, map[string]string{"a": "x"})
	all(t, d.Create("A"), d.Create("a."), d.Create("aa"), d.Create("/a"))
	all(t, d.Delete("a"), d.Create("a"))
	holds(t, "created again", d, map[string]string{"a": "", "A": "", "a.": "", "aa": "", "/a": ""})
	failsWith(t, "Create of a visible path", d.Create("a"), api.ErrTwice)
}

// Promise 7.2: at most MaxFiles paths are visible, and this comes behind the other errors.
func TestCreateFull(t *testing.T) {
	d := full(t)
	failsWith(t, "one file more", d.Create("more"), api.ErrFull)
	failsWith(t, "a visible path", d.Create(numbered(59)), api.ErrTwice)
	failsWith(t, "no path", d.Create("a b"), api.ErrName)
	if n := len(d.Names()); n != 60 {
		t.Errorf("%d files", n)
	}
	all(t, d.Delete(numbered(7)), d.Create("more"))
	failsWith(t, "one file more", d.Create(numbered(7)), api.ErrFull)
}

// Promises 7.2 and 7.5: a Restart may leave more paths than a Create would.
func TestCreateFullAfterRestart(t *testing.T) {
	d := full(t)
	var choices []int
	for i := range api.MaxFiles {
		all(t, d.Delete(numbered(i)), d.Create("g"+numbered(i)))
		choices = append(choices, 0, 1)
	}
	d.Restart(choices)
	if n := len(d.Names()); n != 120 {
		t.Fatalf("%d files", n)
	}
	for i := range api.MaxFiles {
		failsWith(t, "one file more", d.Create("more"), api.ErrFull)
		all(t, d.Delete(numbered(i)))
	}
	failsWith(t, "one file more", d.Create("more"), api.ErrFull)
	all(t, d.Delete("gf00"), d.Create("more"))
}

// Promises 7.2 and 7.3: all other calls on a path that is not visible, whatever their other arguments are.
func TestNotVisible(t *testing.T) {
	d := made(t, map[string]string{"a": "abc", "gone": "xyz"})
	all(t, d.Delete("gone"))
	for _, name := range []string{"gone", "none", "", "A", "a ", "a b", strings.Repeat("a", 41), "\xff"} {
		for _, n := range []int{0, 1, -1, math.MinInt64, math.MaxInt64} {
			failsWith(t, "Delete", d.Delete(name), api.ErrNone)
			readIs(t, d, name, n, 1, "", api.ErrNone)
			readIs(t, d, name, 0, n, "", api.ErrNone)
			failsWith(t, "Write", d.Write(name, n, "x"), api.ErrNone)
			failsWith(t, "Write", d.Write(name, n, ""), api.ErrNone)
			failsWith(t, "Truncate", d.Truncate(name, n), api.ErrNone)
			failsWith(t, "Sync", d.Sync(name), api.ErrNone)
		}
		failsWith(t, "Write", d.Write(name, 0, strings.Repeat("x", 4000001)), api.ErrNone)
		if s, ok := d.Content(name); s != "" || ok {
			t.Errorf("Content(%q) = %q, %v", name, s, ok)
		}
		if n, ok := d.Size(name); n != 0 || ok {
			t.Errorf("Size(%q) = %d, %v", name, n, ok)
		}
	}
	holds(t, "after them", d, map[string]string{"a": "abc"})
}

// Promise 7.2.
func TestDelete(t *testing.T) {
	d := New(3)
	all(t, d.Create("a"), d.Create("b"), d.Write("a", 0, "abc"))
	failsWith(t, "Write to a full disk", d.Write("b", 0, "x"), api.ErrQuota)
	all(t, d.Delete("a"))
	holds(t, "without a", d, map[string]string{"b": ""})
	failsWith(t, "Delete once more", d.Delete("a"), api.ErrNone)
	// What is not visible does not count, although it is pending.
	all(t, d.Write("b", 0, "xyz"))
	holds(t, "b written", d, map[string]string{"b": "xyz"})
}

// Promise 7.2.
func TestRead(t *testing.T) {
	d := made(t, map[string]string{"a": "abc\x00\xff", "e": ""})
	const greatest, least = math.MaxInt64, math.MinInt64
	for _, c := range []struct {
		name  string
		at, n int
		want  string
		err   api.Errno
	}{
		{"a", 0, 5, "abc\x00\xff", api.OK},
		{"a", 0, 1, "a", api.OK},
		{"a", 0, 0, "", api.OK},
		{"a", 1, 2, "bc", api.OK},
		{"a", 2, 3, "c\x00\xff", api.OK},
		{"a", 2, 4, "c\x00\xff", api.OK},
		{"a", 0, greatest, "abc\x00\xff", api.OK},
		{"a", 1, greatest, "bc\x00\xff", api.OK},
		{"a", 4, 9, "\xff", api.OK},
		{"a", 5, 1, "", api.OK},
		{"a", 5, 0, "", api.OK},
		{"a", 6, 1, "", api.OK},
		{"a", 4000001, 1, "", api.OK},
		{"a", greatest, 1, "", api.OK},
		{"a", greatest, greatest, "", api.OK},
		{"a", -1, 1, "", api.ErrRange},
		{"a", -1, 0, "", api.ErrRange},
		{"a", 0, -1, "", api.ErrRange},
		{"a", 9, -1, "", api.ErrRange},
		{"a", -1, -1, "", api.ErrRange},
		{"a", least, greatest, "", api.ErrRange},
		{"a", greatest, least, "", api.ErrRange},
		{"e", 0, 1, "", api.OK},
		{"e", 0, 0, "", api.OK},
		{"e", 0, -1, "", api.ErrRange},
	} {
		readIs(t, d, c.name, c.at, c.n, c.want, c.err)
	}
	holds(t, "after all reads", d, map[string]string{"a": "abc\x00\xff", "e": ""})
}

// Promise 7.2.
func TestWrite(t *testing.T) {
	for _, c := range []struct {
		before string
		at     int
		data   string
		want   string
	}{
		{"", 0, "abc", "abc"},
		{"", 2, "x", "\x00\x00x"},
		{"abc", 0, "x", "xbc"},
		{"abc", 0, "xyz", "xyz"},
		{"abc", 0, "wxyz", "wxyz"},
		{"abc", 1, "x", "axc"},
		{"abc", 2, "x", "abx"},
		{"abc", 2, "xy", "abxy"},
		{"abc", 3, "x", "abcx"},
		{"abc", 4, "x", "abc\x00x"},
		{"abc", 7, "xy", "abc\x00\x00\x00\x00xy"},
		{"abc", 1, "\x00\xff\n", "a\x00\xff\n"},
		{"abc", 1, "b", "abc"},
		{"abc", 0, "", "abc"},
		{"abc", 3, "", "abc"},
		{"abc", 4, "", "abc"},
		{"abc", 4000000, "", "abc"},
		{"", 9, "", ""},
	} {
		d := made(t, map[string]string{"a": c.before, "b": "other"})
		failsWith(t, fmt.Sprintf("Write(%q) at %d", c.data, c.at), d.Write("a", c.at, c.data), api.OK)
		holds(t, fmt.Sprintf("%q, %q at %d", c.before, c.data, c.at), d, map[string]string{"a": c.want, "b": "other"})
	}
}

// Promise 7.2: where a Write may begin.
func TestWriteRange(t *testing.T) {
	long := strings.Repeat("x", 4000001)
	for _, c := range []struct {
		at   int
		data string
		want api.Errno
	}{
		{-1, "x", api.ErrRange},
		{-1, "", api.ErrRange},
		{math.MinInt64, "x", api.ErrRange},
		{math.MinInt64, "", api.ErrRange},
		{3999999, "x", api.OK},
		{4000000, "x", api.ErrRange},
		{3999997, "xyz", api.OK},
		{3999998, "xyz", api.ErrRange},
		{4000000, "", api.OK},
		{4000001, "", api.ErrRange},
		{math.MaxInt64, "", api.ErrRange},
		{math.MaxInt64, "x", api.ErrRange},
		{math.MaxInt64 - 1, "xyz", api.ErrRange},
		{0, long[:4000000], api.OK},
		{1, long[:4000000], api.ErrRange},
		{0, long, api.ErrRange},
		{-1, long, api.ErrRange},
	} {
		d := made(t, map[string]string{"a": "abc"})
		what := fmt.Sprintf("Write of %d bytes at %d", len(c.data), c.at)
		failsWith(t, what, d.Write("a", c.at, c.data), c.want)
		want := 3
		if c.want == api.OK && c.data != "" {
			want = c.at + len(c.data)
		}
		if n, ok := d.Size("a"); n != want || !ok {
			t.Errorf("%s: %d bytes, want %d", what, n, want)
		}
	}
}

// Promise 7.2: a full disk; ErrRange comes before ErrQuota, and a file that does not become longer is always written.
func TestWriteQuota(t *testing.T) {
	for _, c := range []struct {
		at    int
		data  string
		err   api.Errno
		after string
	}{
		{0, "1234", api.OK, "1234"},
		{0, "12345", api.ErrQuota, "ab"},
		{3, "1", api.OK, "ab\x001"},
		{4, "1", api.ErrQuota, "ab"},
		{3, "12", api.ErrQuota, "ab"},
		{3999999, "1", api.ErrQuota, "ab"},
		{4000000, "1", api.ErrRange, "ab"},
		{-1, "12345", api.ErrRange, "ab"},
		{4, "", api.OK, "ab"},
		{5, "", api.OK, "ab"},
		{4000000, "", api.OK, "ab"},
		{4000001, "", api.ErrRange, "ab"},
	} {
		d := New(10)
		all(t, d.Create("a"), d.Create("b"), d.Write("a", 0, "ab"), d.Write("b", 0, "sixsix"))
		what := fmt.Sprintf("Write of %q at %d", c.data, c.at)
		failsWith(t, what, d.Write("a", c.at, c.data), c.err)
		holds(t, what, d, map[string]string{"a": c.after, "b": "sixsix"})
	}
	d := New(3)
	all(t, d.Create("a"), d.Create("b"), d.Write("a", 0, "abc"))
	all(t, d.Write("a", 0, "xyz"), d.Write("a", 2, "c"), d.Write("a", 3, ""), d.Write("b", 0, ""), d.Write("b", 100, ""))
	failsWith(t, "a gap", d.Write("b", 5, "x"), api.ErrQuota)
	holds(t, "a full disk", d, map[string]string{"a": "xyc", "b": ""})
}

// Promises 7.2 and 7.5: a Restart may leave more bytes than the capacity; then files can be written, but not become longer.
func TestWriteQuotaAfterRestart(t *testing.T) {
	d := New(3)
	all(t, d.Create("a"), d.Write("a", 0, "abc"), d.Sync("a"), d.DirSync())
	all(t, d.Truncate("a", 0), d.Create("b"), d.Write("b", 0, "xyz"))
	d.Restart([]int{0, 1, 1})
	holds(t, "more than the capacity", d, map[string]string{"a": "abc", "b": "xyz"})
	all(t, d.Write("a", 1, "BC"), d.Truncate("b", 3), d.Truncate("b", 2), d.Write("a", 99, ""))
	failsWith(t, "one byte more", d.Write("b", 2, "z"), api.ErrQuota)
	failsWith(t, "one byte more", d.Truncate("b", 3), api.ErrQuota)
	all(t, d.Truncate("b", 0), d.Truncate("a", 2), d.Write("b", 0, "z"))
	failsWith(t, "one byte more", d.Write("b", 1, "z"), api.ErrQuota)
	holds(t, "at the end", d, map[string]string{"a": "aB", "b": "z"})
}

// Promise 7.2.
func TestTruncate(t *testing.T) {
	for _, c := range []struct {
		before string
		size   int
		want   string
		err    api.Errno
	}{
		{"abc", 0, "", api.OK},
		{"abc", 1, "a", api.OK},
		{"abc", 3, "abc", api.OK},
		{"abc", 5, "abc\x00\x00", api.OK},
		{"", 0, "", api.OK},
		{"", 2, "\x00\x00", api.OK},
		{"abc", 4000000, "abc" + strings.Repeat("\x00", 3999997), api.OK},
		{"abc", 4000001, "abc", api.ErrRange},
		{"abc", math.MaxInt64, "abc", api.ErrRange},
		{"abc", -1, "abc", api.ErrRange},
		{"abc", math.MinInt64, "abc", api.ErrRange},
	} {
		d := made(t, map[string]string{"a": c.before})
		what := fmt.Sprintf("Truncate of %q to %d", c.before, c.size)
		failsWith(t, what, d.Truncate("a", c.size), c.err)
		holds(t, what, d, map[string]string{"a": c.want})
	}
}

// Promise 7.2: bytes that were cut off do not come back.
func TestTruncateForgets(t *testing.T) {
	d := New(-1)
	all(t, d.Create("a"), d.Write("a", 0, "secret"), d.Truncate("a", 1), d.Truncate("a", 4))
	holds(t, "shorter and longer", d, map[string]string{"a": "s\x00\x00\x00"})
	all(t, d.Truncate("a", 0), d.Write("a", 3, "x"))
	holds(t, "a gap", d, map[string]string{"a": "\x00\x00\x00x"})
	all(t, d.Sync("a"), d.DirSync())
	d.Restart(nil)
	holds(t, "synced", d, map[string]string{"a": "\x00\x00\x00x"})
}

// Promise 7.2: Truncate on a full disk.
func TestTruncateQuota(t *testing.T) {
	d := New(5)
	all(t, d.Create("a"), d.Create("b"), d.Write("a", 0, "ab"), d.Truncate("b", 3))
	failsWith(t, "one byte more", d.Truncate("b", 4), api.ErrQuota)
	failsWith(t, "to MaxBytes", d.Truncate("b", 4000000), api.ErrQuota)
	failsWith(t, "beyond MaxBytes", d.Truncate("b", 4000001), api.ErrRange)
	failsWith(t, "a negative size", d.Truncate("b", -1), api.ErrRange)
	holds(t, "after errors", d, map[string]string{"a": "ab", "b": "\x00\x00\x00"})
	all(t, d.Truncate("b", 3), d.Truncate("a", 2), d.Truncate("a", 1), d.Truncate("b", 4))
	failsWith(t, "one byte more", d.Truncate("a", 2), api.ErrQuota)
	holds(t, "at the end", d, map[string]string{"a": "a", "b": "\x00\x00\x00\x00"})
}

// Promise 7.3: the chapter's example.
func TestExample(t *testing.T) {
	d := New(-1)
	all(t, d.Create("a"), d.Write("a", 0, "xy"), d.Sync("a"))
	d.Restart(nil)
	holds(t, "without DirSync", d, nil)
}

// Promise 7.3: Sync settles the contents of one file, and DirSync the directory, but neither the other.
func TestSync(t *testing.T) {
	changed := func() *Disk {
		d := made(t, map[string]string{"a": "abc", "b": "bcd", "c": "cde"})
		all(t, d.Write("a", 0, "x"), d.Truncate("a", 2), d.Write("a", 4, "y"), d.Write("b", 0, "z"), d.Create("new"), d.Write("new", 0, "n"), d.Delete("c"))
		return d
	}
	for _, c := range []struct {
		what string
		sync func(d *Disk)
		want map[string]string
	}{
		{"nothing", func(d *Disk) {}, map[string]string{"a": "abc", "b": "bcd", "c": "cde"}},
		{"Sync a", func(d *Disk) { all(t, d.Sync("a")) }, map[string]string{"a": "xb\x00\x00y", "b": "bcd", "c": "cde"}},
		{"Sync b", func(d *Disk) { all(t, d.Sync("b")) }, map[string]string{"a": "abc", "b": "zcd", "c": "cde"}},
		{"Sync new", func(d *Disk) { all(t, d.Sync("new")) }, map[string]string{"a": "abc", "b": "bcd", "c": "cde"}},
		{"DirSync", func(d *Disk) { all(t, d.DirSync()) }, map[string]string{"a": "abc", "b": "bcd", "new": ""}},
		{"both", func(d *Disk) { all(t, d.Sync("new"), d.DirSync(), d.Sync("a")) }, map[string]string{"a": "xb\x00\x00y", "b": "bcd", "new": "n"}},
	} {
		d := changed()
		c.sync(d)
		holds(t, c.what+", before the Restart", d, map[string]string{"a": "xb\x00\x00y", "b": "zcd", "new": "n"})
		d.Restart(nil)
		holds(t, c.what, d, c.want)
	}
}

// Promise 7.3: what is synced is not pending any more, so that it takes no choice.
func TestSyncTakesNoChoice(t *testing.T) {
	changed := func() *Disk {
		d := made(t, map[string]string{"a": "", "b": ""})
		all(t, d.Write("a", 0, "A"), d.Create("x"), d.Write("b", 0, "B"), d.Write("a", 1, "C"), d.Create("y"))
		return d
	}
	for _, c := range []struct {
		what    string
		sync    func(d *Disk) api.Errno
		choices []int
		want    map[string]string
	}{
		{"no sync", func(d *Disk) api.Errno { return api.OK }, []int{1, 0, 0, 0, 1}, map[string]string{"a": "A", "b": "", "y": ""}},
		{"Sync a", func(d *Disk) api.Errno { return d.Sync("a") }, []int{1, 0, 1}, map[string]string{"a": "AC", "b": "", "x": "", "y": ""}},
		{"Sync b", func(d *Disk) api.Errno { return d.Sync("b") }, []int{1, 0, 0, 1}, map[string]string{"a": "A", "b": "B", "y": ""}},
		{"DirSync", func(d *Disk) api.Errno { return d.DirSync() }, []int{0, 1, 1}, map[string]string{"a": "\x00C", "b": "B", "x": "", "y": ""}},
		{"Sync of a file without changes", func(d *Disk) api.Errno { return d.Sync("x") }, []int{1, 0, 0, 0, 1}, map[string]string{"a": "A", "b": "", "y": ""}},
	} {
		d := changed()
		all(t, c.sync(d))
		d.Restart(c.choices)
		holds(t, c.what, d, c.want)
	}
}

// Promise 7.3: a second Sync settles nothing anew, and later changes are pending behind it.
func TestSyncTwice(t *testing.T) {
	d := made(t, map[string]string{"a": "abc"})
	all(t, d.Write("a", 0, "x"), d.Sync("a"), d.Sync("a"), d.DirSync(), d.DirSync(), d.Write("a", 1, "y"))
	d.Restart(nil)
	holds(t, "after two Syncs", d, map[string]string{"a": "xbc"})
}

// Promise 7.4: Names are sorted byte by byte, and are those of nobody else.
func TestNames(t *testing.T) {
	d := New(-1)
	names := []string{"b", "a", "a-j", "B", "_", "a/b", "a.b", "0", "10", "9", "-", "aa", "Z", "/"}
	for _, name := range names {
		all(t, d.Create(name))
	}
	want := []string{"-", "/", "0", "10", "9", "B", "Z", "_", "a", "a-j", "a.b", "a/b", "aa", "b"}
	for range 20 {
		got := d.Names()
		if !slices.Equal(got, want) {
			t.Fatalf("%q, want %q", got, want)
		}
		clear(got)
	}
	all(t, d.Delete("aa"))
	if got := d.Names(); slices.Contains(got, "aa") || len(got) != len(want)-1 {
		t.Errorf("%q", got)
	}
}

// Promise 7.4: Content and Size.
func TestContent(t *testing.T) {
	d := made(t, map[string]string{"a": "ab\x00", "e": ""})
	for name, want := range map[string]string{"a": "ab\x00", "e": ""} {
		if s, ok := d.Content(name); s != want || !ok {
			t.Errorf("Content(%q) = %q, %v", name, s, ok)
		}
		if n, ok := d.Size(name); n != len(want) || !ok {
			t.Errorf("Size(%q) = %d, %v", name, n, ok)
		}
	}
	// A result does not follow later changes.
	before, _ := d.Content("a")
	read, _ := d.Read("a", 0, 9)
	all(t, d.Write("a", 0, "XYZ"))
	if before != "ab\x00" || read != "ab\x00" {
		t.Errorf("%q and %q", before, read)
	}
}

// Promise 7.4: reports are not counted, and do not fail.
func TestReportsAreNotCounted(t *testing.T) {
	d := made(t, map[string]string{"a": "abc"})
	ops := d.Ops()
	d.Faults([]Fault{{ops + 1, api.ErrIO}})
	reports := func(down bool) {
		t.Helper()
		holds(t, "reports", d, map[string]string{"a": "abc"})
		if n, ok := d.Size("a"); n != 3 || !ok || d.Ops() != ops || d.Down() != down {
			t.Errorf("%d bytes, %v, %d calls, down %v", n, ok, d.Ops(), d.Down())
		}
	}
	reports(false)
	d.CrashAt(ops + 2)
	reports(false)
	failsWith(t, "the fault", d.DirSync(), api.ErrIO)
	failsWith(t, "the crash", d.DirSync(), api.ErrCrash)
	ops += 2
	reports(true)
}

// Promises 7.4 and P1: all methods of a nil *Disk.
func TestNil(t *testing.T) {
	var d *Disk
	for _, s := range append(steps(), impossible()...) {
		failsWith(t, s.name, s.do(d), api.ErrState)
	}
	readIs(t, d, "a", 0, 1, "", api.ErrState)
	d.Faults([]Fault{{1, api.ErrIO}})
	d.CrashAt(1)
	d.Restart([]int{1})
	if s, ok := d.Content("a"); s != "" || ok {
		t.Errorf("Content: %q, %v", s, ok)
	}
	if n, ok := d.Size("a"); n != 0 || ok {
		t.Errorf("Size: %d, %v", n, ok)
	}
	if names := d.Names(); len(names) != 0 || d.Ops() != 0 || d.Down() {
		t.Errorf("Names %q, Ops %d, Down %v", names, d.Ops(), d.Down())
	}
}

// P1: a Disk that New did not return does not panic either.
func TestZero(t *testing.T) {
	for _, s := range append(steps(), impossible()...) {
		d := &Disk{}
		s.do(d)
		d.Restart([]int{1, 1})
		s.do(d)
	}
	d := &Disk{}
	all(t, d.Create("a"), d.DirSync())
	failsWith(t, "Write", d.Write("a", 0, "x"), api.ErrQuota)
	d.Faults([]Fault{{4, api.ErrIO}})
	failsWith(t, "Sync", d.Sync("a"), api.ErrIO)
	d.Restart(nil)
	holds(t, "synced", d, map[string]string{"a": ""})
}
