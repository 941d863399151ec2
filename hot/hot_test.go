package hot

import (
	"fmt"
	"maps"
	"regexp"
	"slices"
	"strings"
	"testing"

	"annexe/api"
	"annexe/disk"
	"annexe/jread"
	"annexe/super"
)

// files is what a disk has: contents by path.
type files map[string]string

// made returns a disk of full capacity with these files, all of them durable.
func made(t *testing.T, l files) *disk.Disk {
	t.Helper()
	d := disk.New(-1)
	lay(t, d, l)
	return d
}

// lay adds files to a disk, all of them durable.
func lay(t *testing.T, d *disk.Disk, l files) {
	t.Helper()
	for _, name := range slices.Sorted(maps.Keys(l)) {
		all(t, d.Create(name), d.Write(name, 0, l[name]), d.Sync(name))
	}
	all(t, d.DirSync())
}

// crowd returns a disk with these files, all of them durable, also if there
// are more of them than a disk takes: a machine that crashes may forget Deletes.
func crowd(t *testing.T, l files) *disk.Disk {
	t.Helper()
	d := disk.New(-1)
	var choices []int
	for names := range slices.Chunk(slices.Sorted(maps.Keys(l)), api.MaxFiles) {
		for _, name := range names {
			all(t, d.Create(name), d.Write(name, 0, l[name]), d.Sync(name))
			choices = append(choices, 1)
		}
		for _, name := range names {
			all(t, d.Delete(name))
			choices = append(choices, 0)
		}
	}
	d.Restart(choices)
	holds(t, "a crowd", d, l)
	return d
}

// all requires that no call has failed.
func all(t *testing.T, errs ...api.Errno) {
	t.Helper()
	for i, err := range errs {
		if err != api.OK {
			t.Fatalf("call %d of %d: error %d", i+1, len(errs), err)
		}
	}
}

// seen returns what is visible of a disk.
func seen(d *disk.Disk) files {
	l := files{}
	for _, name := range d.Names() {
		l[name], _ = d.Content(name)
	}
	return l
}

// brief returns files in few words.
func brief(l files) string {
	var b strings.Builder
	for _, name := range slices.Sorted(maps.Keys(l)) {
		fmt.Fprintf(&b, " %q: %d bytes %.6q", name, len(l[name]), l[name])
		for at := api.PageSize; at < len(l[name]); at += api.PageSize {
			fmt.Fprintf(&b, " %.1q", l[name][at:])
		}
	}
	return b.String()
}

// holds requires that a disk has exactly these visible files, with these contents.
func holds(t *testing.T, what string, d *disk.Disk, want files) {
	t.Helper()
	if got := seen(d); !maps.Equal(got, want) {
		t.Errorf("%s: has%s, want%s", what, brief(got), brief(want))
	}
}

// holdsFirmly requires that a disk has exactly these files, and that all of them are durable.
func holdsFirmly(t *testing.T, what string, d *disk.Disk, want files) {
	t.Helper()
	holds(t, what, d, want)
	d.Restart(nil)
	holds(t, what+", restarted", d, want)
}

func failsWith(t *testing.T, what string, err, want api.Errno) {
	t.Helper()
	if err != want {
		t.Errorf("%s: error %d, want %d", what, err, want)
	}
}

// page returns a page of a byte; pages returns several, a byte each.
func page(c byte) string { return strings.Repeat(string([]byte{c}), api.PageSize) }

func pages(s string) string {
	var b strings.Builder
	for i := range len(s) {
		b.WriteString(page(s[i]))
	}
	return b.String()
}

// segment returns a segment with page i + 1 for the i-th byte that is not a
// dot, as it was in a file of so many pages.
func segment(s string, count int) string {
	var l []jread.Record
	for i := range len(s) {
		if s[i] != '.' {
			l = append(l, jread.Record{Page: i + 1, Data: page(s[i])})
		}
	}
	part, err := jread.Part(l, count, 100+len(s))
	if err != api.OK {
		panic(err)
	}
	return part
}

// trailer returns the trailer that names a super-journal.
func trailer(name string) string {
	s, err := super.Trailer(name)
	if err != api.OK {
		panic(err)
	}
	return s
}

// boss returns the super-journal of some files.
func boss(children ...string) string {
	s, err := super.Encode(children)
	if err != api.OK {
		panic(err)
	}
	return s
}

// Promise 13.1: the journal of a file, whatever its path.
func TestJournal(t *testing.T) {
	long := strings.Repeat("long", 1000)
	for file, want := range map[string]string{
		"": "-j", "a": "a-j", "main": "main-j", "a-j": "a-j-j", "-j": "-j-j", "a-s1": "a-s1-j", "d/f.x": "d/f.x-j",
		" ": " -j", "\x00\xff": "\x00\xff-j", "é": "é-j", long: long + "-j",
	} {
		if s := Journal(file); s != want {
			t.Errorf("Journal(%.20q) = %.20q, want %.20q", file, s, want)
		}
	}
}

// Promise 13.1: paths of super-journals, and after what they are named.
func TestSuper(t *testing.T) {
	long := strings.Repeat("long", 1000)
	for path, want := range map[string]string{
		"a-s1": "a", "a-s9": "a", "a-s10": "a", "a-s100": "a", "a-s907": "a", "a-s1000": "a", "a-s1001": "a", "a-s20000": "a",
		"main-s2": "main", "a-s9223372036854775806": "a", "a-s9223372036854775807": "a",

		// Of several -s, the last one counts.
		"a-s-s1": "a-s", "a-s1-s2": "a-s1", "a-s-s-s3": "a-s-s", "-s-s1": "-s", "-s1-s1": "-s1", "a-s0-s1": "a-s0", "a-sx-s1": "a-sx",

		// Any bytes, as many as there are.
		"--s1": "-", "s-s1": "s", "1-s1": "1", "a--s1": "a-", "a-ss-s1": "a-ss", "a-j-s1": "a-j", " -s7": " ", "\x00-s7": "\x00", "\xff\xfe-s7": "\xff\xfe",
		"\n-s7": "\n", "é-s7": "é", long + "-s12": long,
	} {
		if s, ok := Super(path); s != want || !ok {
			t.Errorf("Super(%.20q) = %.20q, %v, want %.20q", path, s, ok, want)
		}
	}
}

// Promise 13.1: what is not the path of a super-journal.
func TestNoSuper(t *testing.T) {
	for _, path := range []string{
		"", "a", "-", "s", "1", "main", "a-j", "-j",
		"as1", "a-1", "a1", "a-S1", "a_s1", "a-t1", "a- s1", "a-\x00s1", "-", "a-", "s1", // no -s
		"-s", "-s1", "-s10", "-s0", "-s-s", // nothing ahead of it
		"a-s", "a-s-s", "a-s1-s", "a-s1-s-s", // nothing behind it
		"a-s0", "a-s00", "a-s01", "a-s001", "a-s0000000000000000000001", "a-s" + strings.Repeat("0", 1000) + "1", // 0, and leading zeros
		"a-s+1", "a-s-1", "a-s-0", "a-s--1", // signs
		"a-s9223372036854775808", "a-s9223372036854775809", "a-s18446744073709551616", "a-s18446744073709551617", "a-s99999999999999999999", "a-s" + strings.Repeat("9", 1000),
		"a-s 1", "a-s1 ", "a-s1\n", "a-s\x001", "a-s1\x00", "a-sa", "a-s1a", "a-sa1", "a-s1.", "a-s1.0", "a-s0x1", "a-s1e3", "a-s1_0", "a-s1,000", "a-s１", "a-s٣",
		"a-s1-j", "a-s1-s0", "a-s1-sx", "a-s1-s01", "a-s1s", "a-s1-", "a-ss1", "a-s1-S2",
	} {
		if s, ok := Super(path); s != "" || ok {
			t.Errorf("Super(%.40q) = %.20q, %v", path, s, ok)
		}
	}
}

// Promise 13.1: all strings of up to seven bytes out of six that matter.
func TestSuperAll(t *testing.T) {
	form := regexp.MustCompile(`(?s)^(.+)-s([1-9][0-9]*)$`)
	var all func(s string)
	all = func(s string) {
		want := ""
		if m := form.FindStringSubmatch(s); m != nil {
			want = m[1]
		}
		if got, ok := Super(s); got != want || ok != (want != "") {
			t.Errorf("Super(%q) = %q, %v, want %q", s, got, ok, want)
		}
		if len(s) < 7 {
			for _, c := range "-sa019" {
				all(s + string(c))
			}
		}
	}
	all("")
}

// Promise 13.1: what Super returns is that of which a path can be made again.
func TestSuperInverts(t *testing.T) {
	for _, file := range []string{"a", "-", "-s", "a-s1", "a-j", "\x00", "\xff-s", strings.Repeat("x", 100)} {
		for n := 1; n <= 2000; n++ {
			if s, ok := Super(fmt.Sprintf("%s-s%d", file, n)); s != file || !ok {
				t.Errorf("number %d of %q: %q, %v", n, file, s, ok)
			}
		}
	}
}
