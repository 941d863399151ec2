package hot

import (
	"fmt"
	"strings"
	"testing"

	"annexe/api"
	"annexe/disk"
)

// freshIs requires that Fresh returns a path, and that this changes nothing.
func freshIs(t *testing.T, what string, d *disk.Disk, file, want string) {
	t.Helper()
	before := seen(d)
	if s, err := Fresh(d, file); s != want || err != api.OK {
		t.Errorf("%s: Fresh(%.40q) = %.50q, error %d, want %.50q", what, file, s, err, want)
	}
	holds(t, what, d, before)
}

// naming returns a journal that names a super-journal.
func naming(path string) string { return segment("x", 1) + trailer(path) }

// Promise 13.2: the least number that is free.
func TestFresh(t *testing.T) {
	for _, c := range []struct {
		what string
		l    files
		want string
	}{
		{"no files", nil, "a-s1"},
		{"other files", files{"a": "", "a-j": "", "a-s": "", "a-s0": "", "a-s01": "", "a-s11": "", "b-s1": "", "A-s1": "", "aa-s1": "", "a-s1-j": "", "a-s1-s1": ""}, "a-s1"},

		{"a visible file", files{"a-s1": ""}, "a-s2"},
		{"a visible file behind a gap", files{"a-s2": ""}, "a-s1"},
		{"several visible files", files{"a-s1": "", "a-s2": boss("a", "b"), "a-s3": ""}, "a-s4"},
		{"visible files and a gap", files{"a-s1": "", "a-s2": "", "a-s4": ""}, "a-s3"},
		{"nine visible files", files{"a-s1": "", "a-s2": "", "a-s3": "", "a-s4": "", "a-s5": "", "a-s6": "", "a-s7": "", "a-s8": "", "a-s9": ""}, "a-s10"},

		{"its own journal", files{"a-j": naming("a-s1")}, "a-s2"},
		{"its own journal, behind a gap", files{"a-j": naming("a-s2")}, "a-s1"},
		{"the journal of another file", files{"b-j": naming("a-s1")}, "a-s2"},
		{"the journal of a file whose path is longer", files{"b/c.d-s1-j": naming("a-s1")}, "a-s2"},
		{"several journals", files{"a-j": naming("a-s2"), "b-j": naming("a-s1"), "c-j": naming("a-s3")}, "a-s4"},
		{"several journals that name the same", files{"a-j": naming("a-s1"), "b-j": naming("a-s1"), "c-j": naming("a-s1")}, "a-s2"},
		{"journals and files in turn", files{"a-s1": "", "b-j": naming("a-s2"), "a-s3": "", "c-j": naming("a-s4")}, "a-s5"},
		{"a journal that names a visible file", files{"a-s1": "", "b-j": naming("a-s1")}, "a-s2"},
		{"two segments", files{"b-j": segment("x", 1) + naming("a-s1")}, "a-s2"},
		{"a segment without pages", files{"b-j": segment("", 0) + trailer("a-s1")}, "a-s2"},
		{"a journal of a journal", files{"b-j-j": naming("a-s1")}, "a-s2"},

		{"other names", files{"a-j": naming("b-s1"), "b-j": naming("a-s"), "c-j": naming("a-s01"), "d-j": naming("a-s11"), "e-j": naming("a"), "f-j": naming("\x00")}, "a-s1"},
		{"-j alone", files{"-j": naming("a-s1")}, "a-s1"},
		{"a journal of one byte more", files{"--j": naming("a-s1")}, "a-s2"},
		{"no journals", files{"a": naming("a-s1"), "aj": naming("a-s1"), "a-jj": naming("a-s1"), "a-j1": naming("a-s1"), "a-J": naming("a-s1"), "-jj": naming("a-s1")}, "a-s1"},
		{"journals that name nothing", files{
			"a-j": "", "b-j": segment("x", 1), "c-j": trailer("a-s1"), "d-j": naming("a-s1") + "\x00", "e-j": naming("a-s1")[:570], "f-j": segment("x", 1)[1:] + trailer("a-s1"),
		}, "a-s1"},
	} {
		freshIs(t, c.what, made(t, c.l), "a", c.want)
	}
}

// Promise 13.2: what is visible counts, whether it is durable or not.
func TestFreshVisible(t *testing.T) {
	d := made(t, files{"a-s1": "", "b-j": naming("a-s2"), "c-j": segment("x", 1)})
	all(t, d.Delete("a-s1"), d.Write("b-j", 0, "?"))
	freshIs(t, "deleted, and not durable", d, "a", "a-s1")
	all(t, d.Create("a-s1"), d.Write("c-j", len(segment("x", 1)), trailer("a-s2")))
	freshIs(t, "written, and not durable", d, "a", "a-s3")
	all(t, d.Delete("c-j"))
	freshIs(t, "a journal that is still durable", d, "a", "a-s2")
}

// Promise 13.2: a file's path may have any bytes, and any length.
func TestFreshPaths(t *testing.T) {
	long := strings.Repeat("x", 37)
	d := made(t, files{"a-s1": "", long + "-s1": "", "-s1-s1": "", "a-s1-s1": "", "b-j": naming("\x00-s1"), "c-j": naming("é-s1"), "d-j": naming(long + "-s2"), "e-j": naming("-s-s1")})
	for file, want := range map[string]string{
		"a": "a-s2", "a-s1": "a-s1-s2", "-s1": "-s1-s2", "-s": "-s-s2", "\x00": "\x00-s2", "é": "é-s2", long: long + "-s3",
		"A": "A-s1", "\x01": "\x01-s1", long + "x": long + "x-s1", "d-j": "d-j-s1", " ": " -s1", strings.Repeat("y", 5000): strings.Repeat("y", 5000) + "-s1",
	} {
		freshIs(t, "a path", d, file, want)
		s, _ := Fresh(d, file)
		if after, ok := Super(s); after != file || !ok {
			t.Errorf("%.40q is named after %.40q, %v", s, after, ok)
		}
	}
	// No super-journal is named after the empty string, and the chapter names
	// no error: the path is made as others are.
	freshIs(t, "the empty string", d, "", "-s1")
}

// taken returns files that take the numbers of a file's super-journals, up to
// one: every third by its journal.
func taken(file string, upTo int) files {
	l := files{}
	for n := 1; n <= upTo; n++ {
		path := fmt.Sprintf("%s-s%d", file, n)
		if n%3 == 0 {
			l[fmt.Sprintf("f%d-j", n)] = naming(path)
		} else {
			l[path] = ""
		}
	}
	return l
}

// Promise 13.2: the numbers up to 1000, and no others.
func TestFreshFull(t *testing.T) {
	for _, n := range []int{998, 999} {
		freshIs(t, "almost all", crowd(t, taken("a", n)), "a", fmt.Sprintf("a-s%d", n+1))
	}
	l := taken("a", 1000)
	d := crowd(t, l)
	if s, err := Fresh(d, "a"); s != "" || err != api.ErrFull {
		t.Errorf("all numbers: %q, error %d", s, err)
	}
	holds(t, "all numbers", d, l)
	freshIs(t, "another file", d, "b", "b-s1")

	// An error of the disk comes first.
	d.Faults([]disk.Fault{{At: d.Ops() + 333, Err: api.ErrIO}})
	if s, err := Fresh(d, "a"); s != "" || err != api.ErrIO {
		t.Errorf("all numbers, and a fault: %q, error %d", s, err)
	}
	all(t, d.Delete("f999-j"))
	freshIs(t, "a journal less", d, "a", "a-s999")
	all(t, d.Delete("a-s1"))
	freshIs(t, "the least number", d, "a", "a-s1")
}

// Promise 13.2: each disk call fails in turn.
func TestFreshFails(t *testing.T) {
	l := files{"a-s1": "", "a-j": naming("a-s2"), "b-j": segment("x", 1), "c-j": "", "d-j": naming("gone")}
	for _, err := range anyErrors() {
		for n := 1; ; n++ {
			d := made(t, l)
			ops := d.Ops()
			d.Faults([]disk.Fault{{At: ops + n, Err: err}})
			s, got := Fresh(d, "a")
			if d.Ops() < ops+n {
				// Each of the journals has to be read.
				if n <= 4 || s != "a-s3" || got != api.OK {
					t.Errorf("%d calls: %q, error %d", n-1, s, got)
				}
				break
			}
			if s != "" || got != err {
				t.Errorf("call %d: %q, error %d, want error %d", n, s, got, err)
			}
		}
	}
}

// Promise 13.2: a machine that is down, and one that goes down.
func TestFreshDown(t *testing.T) {
	d := made(t, files{"b-j": naming("a-s1")})
	d.CrashAt(d.Ops() + 1)
	for range 2 {
		if s, err := Fresh(d, "a"); s != "" || err != api.ErrCrash {
			t.Errorf("%q, error %d", s, err)
		}
	}
	d.Restart(nil)
	freshIs(t, "a machine that is up again", d, "a", "a-s2")
}

// Promise P1: a nil disk has neither files nor journals.
func TestFreshNil(t *testing.T) {
	if s, err := Fresh(nil, "a"); s != "a-s1" || err != api.OK {
		t.Errorf("Fresh(nil) = %q, error %d", s, err)
	}
}
