package hot

import (
	"fmt"
	"strings"
	"testing"

	"annexe/api"
)

// Promise 13.3: which super-journals are removable after a is restored.
func TestRemovable(t *testing.T) {
	ab, abc := boss("a", "b"), boss("c", "a", "b")
	var names []string
	for i := range 11 {
		names = append(names, fmt.Sprint("f", i))
	}
	for _, c := range []struct {
		what   string
		path   string
		s      string
		others files
		want   bool
	}{
		{"of this file", "a-s1", ab, nil, true},
		{"of this file, which is not the first", "a-s1", boss("b", "a"), nil, true},
		{"of this file among twelve", "a-s1", boss(append(names, "a")...), nil, true},
		{"a great number", "a-s1001", ab, nil, true},
		{"the greatest number", "a-s9223372036854775807", ab, nil, true},
		{"of this file, named after another", "b-s1", ab, nil, true},
		{"of this file, named after none of its files", "x-s1", ab, nil, true},
		{"of this file, named after a string with -s", "b-s1-s2", ab, nil, true},
		{"of other files", "b-s1", boss("b", "c"), nil, false},
		{"of other files, named after this one", "a-s1", boss("b", "c"), nil, false},
		{"of other files whose paths begin so", "a-s1", boss("aa", "a-j"), nil, false},

		{"a journal names it", "a-s1", ab, files{"b-j": naming("a-s1")}, false},
		{"a journal names it, of several files", "a-s1", abc, files{"b-j": naming("a-s1"), "c-j": naming("a-s2")}, false},
		{"the last journal names it", "a-s1", abc, files{"b-j": naming("a-s1")}, false},
		{"the first journal names it", "a-s1", abc, files{"c-j": naming("a-s1")}, false},
		{"two journals name it", "b-s1", abc, files{"b-j": naming("b-s1"), "c-j": naming("b-s1")}, false},
		{"a journal without pages names it", "a-s1", ab, files{"b-j": segment("", 0) + trailer("a-s1")}, false},
		{"a journal names another one", "a-s1", ab, files{"b-j": naming("a-s2")}, true},
		{"a journal names one that begins so", "a-s1", ab, files{"b-j": naming("a-s11")}, true},
		{"a journal names none", "a-s1", ab, files{"b-j": segment("x", 1)}, true},
		{"a journal with a torn segment", "a-s1", ab, files{"b-j": segment("x", 1)[1:] + trailer("a-s1")}, true},
		{"a journal with a torn trailer", "a-s1", ab, files{"b-j": naming("a-s1")[:579]}, true},
		{"an empty journal", "a-s1", ab, files{"b-j": ""}, true},
		{"a journal of none of its files names it", "a-s1", ab, files{"c-j": naming("a-s1"), "-j": naming("a-s1")}, true},
		{"what is no journal names it", "a-s1", ab, files{"b": naming("a-s1"), "bj": naming("a-s1"), "b-j-j": naming("a-s1"), "a-s1-j": naming("a-s1")}, true},
		{"a path that has no journal", "a-s1", boss("a", "\x00", strings.Repeat("x", 40)), nil, true},
		{"of a file with the path -", "a-s1", boss("a", "-"), files{"--j": naming("a-s1")}, false},

		{"empty", "a-s1", "", nil, true},
		{"torn", "a-s1", ab[:len(ab)-1], nil, true},
		{"torn, filled up", "a-s1", ab[:len(ab)-1] + "\x00", nil, true},
		{"more", "a-s1", ab + "\x00", nil, true},
		{"of one file", "a-s1", "annxsupr\x00\x00\x00\x01\x00\x00\x00\x01a", nil, true},
		{"unreadable, and a journal names it", "a-s1", ab[1:], files{"b-j": naming("a-s1")}, true},
		{"unreadable, named after another file", "b-s1", ab[1:], nil, false},
		{"unreadable, named after a file whose path begins so", "aa-s1", "", nil, false},
		{"unreadable, named after a super-journal of this file", "a-s1-s1", "", nil, false},
		{"empty, named after another file", "b-s1", "", nil, false},

		{"no -s", "as1", ab, nil, false},
		{"the number 0", "a-s0", ab, nil, false},
		{"a leading zero", "a-s01", ab, nil, false},
		{"a number that is too great", "a-s9223372036854775808", ab, nil, false},
		{"no number", "a-s", ab, nil, false},
		{"nothing ahead", "-s1", ab, nil, false},
		{"something behind", "a-s1.", ab, nil, false},
		{"empty, and no path of a super-journal", "a-s0", "", nil, false},
	} {
		removableIs(t, c.what, c.path, c.s, c.others, c.want)
	}
}

// removableIs requires that Recover of a deletes a super-journal, or not, in
// each state of a.
func removableIs(t *testing.T, what, path, s string, others files, want bool) {
	t.Helper()
	for _, l := range []files{
		nil, {"a": pages("12")}, {"a": pages("12"), "a-j": segment("x", 1)}, {"a-j": segment("x", 1)}, {"a": pages("12"), "a-j": ""},
		{"a": pages("12"), "a-j": naming(path)}, {"a": pages("12"), "a-j": naming("gone")},
	} {
		d := made(t, with(with(l, others), files{path: s}))
		left := with(without(l, "a-j"), others)
		if state, _ := State(d, "a"); state == Hot {
			left["a"] = page('x')
		}
		if !want {
			left[path] = s
		}
		recovers(t, what, d, "a", left)
	}
}

// Promise 13.3: each super-journal by itself, and other files stay.
func TestRemovables(t *testing.T) {
	gone := files{"a-s1": "", "a-s2": boss("a", "b"), "a-s10": boss("c", "a"), "b-s1": boss("b", "a"), "x-s7": boss("a", "x")}
	left := files{
		"a": "a", "b": "b", "a-s0": boss("a", "b"), "b-s2": "", "b-s3": boss("b", "c"), "a-s3": boss("b", "c"), "a-s4": boss("a", "b"), "b-s4": boss("d", "a"),
		"b-j": naming("a-s4"), "d-j": naming("b-s4"), "c-j": naming("x-s7"), "s": boss("a", "b"),
	}
	recovers(t, "Clean", made(t, with(left, gone)), "a", left)
	recovers(t, "Stale", made(t, with(with(left, gone), files{"a-j": ""})), "a", left)
	recovers(t, "Hot", made(t, with(with(left, gone), files{"a-j": segment("1", 1) + trailer("a-s2")})), "a", with(left, files{"a": page('1')}))
}

// Promise 13.3: a file whose path is that of a super-journal.
func TestRecoverSuper(t *testing.T) {
	recovers(t, "a file that is its own super-journal", made(t, files{"a-s1": boss("a-s1", "b")}), "a-s1", nil)
	recovers(t, "a super-journal of others", made(t, files{"a-s1": boss("a", "b")}), "a-s1", files{"a-s1": boss("a", "b")})
	recovers(t, "torn ones", made(t, files{"a-s1": "", "a-s1-s1": "", "a-s1-s": ""}), "a-s1", files{"a-s1": "", "a-s1-s": ""})
	// It is restored before it is read.
	recovers(t, "a Hot one", made(t, files{"a-s1": boss("a-s1", "b"), "a-s1-j": segment("x", 1)}), "a-s1", files{"a-s1": page('x')})
}

// Promise 13.3: the files of a commit are restored in any order; the
// super-journal is deleted with the last journal that names it.
func TestRecoverSeveral(t *testing.T) {
	names := []string{"a", "b", "c"}
	l := files{"a-s1": boss(names...)}
	for _, file := range names {
		l[file] = pages("xyz")
		l[file+"-j"] = segment("12", 2) + trailer("a-s1")
	}
	for _, order := range [][]string{{"a", "b", "c"}, {"a", "c", "b"}, {"b", "a", "c"}, {"b", "c", "a"}, {"c", "a", "b"}, {"c", "b", "a"}} {
		d, left := made(t, l), l
		for i, file := range order {
			left = with(without(left, file+"-j"), files{file: pages("12")})
			if i == len(order)-1 {
				left = without(left, "a-s1")
			}
			recovers(t, "a commit that was not completed", d, file, left)
		}

		d, left = made(t, without(l, "a-s1")), without(l, "a-s1")
		for _, file := range order {
			left = without(left, file+"-j")
			recovers(t, "a commit that was completed", d, file, left)
		}
	}
}

// The document's third example: a journal names a super-journal that has been
// deleted; a new one has another name, and the file stays Stale.
func TestFreshKeepsStale(t *testing.T) {
	d := made(t, files{"main": page('m'), "o": page('n'), "o-j": segment("o", 1) + trailer("main-s1")})
	all(t, Recover(d, "main"))
	path, err := Fresh(d, "main")
	if path != "main-s2" || err != api.OK {
		t.Fatalf("%q, error %d", path, err)
	}
	lay(t, d, files{path: boss("main", "o")})
	stateIs(t, "the old journal", d, "o", Stale)
	recovers(t, "the old journal", d, "o", files{"main": page('m'), "o": page('n')})
	if s, _ := Fresh(d, "main"); s != "main-s1" {
		t.Errorf("fresh: %q", s)
	}
}

// Promise 13.3: more super-journals than a disk takes at once.
func TestRemovablesMany(t *testing.T) {
	l := files{"a": "a", "b": ""}
	for n := 1; n <= 200; n++ {
		l[fmt.Sprintf("a-s%d", n)] = boss("a", "b")[n%2:]
	}
	recovers(t, "many super-journals", crowd(t, l), "a", files{"a": "a", "b": ""})
	recovers(t, "many super-journals of another", crowd(t, l), "b", func() files {
		left := with(l, nil)
		for n := 2; n <= 200; n += 2 {
			delete(left, fmt.Sprintf("a-s%d", n))
		}
		return left
	}())
}
