package hot

import (
	"strings"
	"testing"

	"annexe/api"
	"annexe/disk"
)

// stateIs requires that State returns a state, and that this changes nothing.
func stateIs(t *testing.T, what string, d *disk.Disk, file string, want int) {
	t.Helper()
	before := seen(d)
	if n, err := State(d, file); n != want || err != api.OK {
		t.Errorf("%s: State(%.40q) = %d, error %d, want %d", what, file, n, err, want)
	}
	holds(t, what, d, before)
}

// Promise 13.2: the states have their numbers.
func TestStates(t *testing.T) {
	if Clean != 0 || Hot != 1 || Stale != 2 {
		t.Errorf("%d, %d, %d", Clean, Hot, Stale)
	}
}

// Promise 13.2: files without a journal, whatever other files there are.
func TestStateClean(t *testing.T) {
	whole := segment("x", 1)
	for _, l := range []files{
		nil, {"a": ""}, {"a": page('x')}, {"a": whole}, {"b-j": whole}, {"aj": whole}, {"a-J": whole}, {"a-jj": whole}, {"a-j-j": whole}, {"-j": whole}, {"a-s1": whole},
	} {
		d := made(t, l)
		stateIs(t, "a file without a journal", d, "a", Clean)
		if n, err := State(d, "a"); n != Clean || err != api.OK {
			t.Errorf("state %d, error %d", n, err)
		}
	}
}

// Promise 13.2: the state by the contents of the journal, whether the file exists or not.
func TestState(t *testing.T) {
	whole, two := segment("x.y", 3), segment("x.y", 3)+segment(".z", 3)
	there, gone := trailer("a-s1"), trailer("a-s2")
	for _, c := range []struct {
		what    string
		journal string
		want    int
	}{
		{"an empty journal", "", Stale},
		{"zero bytes", strings.Repeat("\x00", 2000), Stale},
		{"the first 31 bytes of a header", whole[:31], Stale},
		{"a torn header, filled up", whole[:31] + strings.Repeat("\x00", 1041), Stale},
		{"a header without its pages", whole[:32], Stale},
		{"a torn page", whole[:len(whole)-1], Stale},
		{"a changed byte", whole[:700] + "?" + whole[701:], Stale},
		{"a trailer alone", there, Stale},
		{"a torn segment and a trailer", whole[:len(whole)-1] + there, Stale},

		{"a segment", whole, Hot},
		{"a segment without pages", segment("", 3), Hot},
		{"a segment of an empty file", segment("", 0), Hot},
		{"two segments", two, Hot},
		{"a segment and a torn one", two[:len(two)-1], Hot},
		{"a segment and more", whole + "more", Hot},
		{"a segment and one of another number of pages", whole + segment("x", 4), Hot},

		{"a super-journal that is visible", whole + there, Hot},
		{"two segments, and a super-journal that is visible", two + there, Hot},
		{"a super-journal that is not visible", whole + gone, Stale},
		{"two segments, and a super-journal that is not visible", two + gone, Stale},
		{"no pages, and a super-journal that is not visible", segment("", 3) + gone, Stale},
		{"a super-journal that is empty", whole + trailer("a-s3"), Hot},
		{"a super-journal of other files", whole + trailer("b-s1"), Hot},

		// What a journal names may have any path.
		{"a file that is visible", whole + trailer("b"), Hot},
		{"the journal itself", whole + trailer("a-j"), Hot},
		{"a file that is not visible", whole + trailer("c"), Stale},
		{"no path of the disk", whole + trailer("\x00"), Stale},
		{"40 bytes", whole + trailer(strings.Repeat("x", 40)), Stale},
		{"a path of which the first bytes are visible", whole + trailer("a-s11"), Stale},
		{"the first bytes of a path", whole + trailer("a-s"), Stale},

		// What is not a trailer names nothing.
		{"a torn trailer", whole + gone[:len(gone)-1], Hot},
		{"a trailer and more", whole + gone + "\x00", Hot},
		{"two trailers", whole + gone + gone, Hot},
		{"a trailer behind a torn segment", two[:len(two)-1] + gone, Hot},
		{"a trailer between segments", whole + gone + whole, Hot},
	} {
		for _, l := range []files{
			{"a-j": c.journal},
			{"a-j": c.journal, "a": ""},
			{"a-j": c.journal, "a": pages("123"), "a-s2-j": whole, "b-j": whole + gone, "c-j": ""},
		} {
			d := made(t, l)
			lay(t, d, files{"a-s1": boss("a", "b"), "a-s3": "", "b-s1": boss("b", "c"), "b": ""})
			stateIs(t, c.what, d, "a", c.want)
		}
	}
}

// Promise 13.2: every prefix of a journal of two segments that names a super-journal which is not visible.
func TestStatePrefixes(t *testing.T) {
	first := segment("x", 2)
	s := first + segment(".y", 2) + trailer("a-s1")
	d := made(t, files{"a-j": s, "a": pages("12")})
	for n := len(s); n >= 0; n-- {
		want := Hot
		if n < len(first) || n == len(s) {
			want = Stale
		}
		all(t, d.Truncate("a-j", n))
		stateIs(t, "a prefix", d, "a", want)
	}
}

// Promise 13.2: what is visible counts, whether it is durable or not.
func TestStateVisible(t *testing.T) {
	whole := segment("x", 1) + trailer("a-s1")
	d := made(t, files{"a": pages("1")})
	all(t, d.Create("a-j"))
	stateIs(t, "a journal that is not durable", d, "a", Stale)
	all(t, d.Create("a-s1"), d.Write("a-j", 0, whole))
	stateIs(t, "a super-journal that is not durable", d, "a", Hot)
	all(t, d.DirSync(), d.Sync("a-j"), d.Delete("a-s1"))
	stateIs(t, "a super-journal that is still durable", d, "a", Stale)
	all(t, d.Delete("a-j"))
	stateIs(t, "a journal that is still durable", d, "a", Clean)
	d.Restart(nil)
	stateIs(t, "nothing has been deleted", d, "a", Hot)
}

// Promise 13.2: a file's path may have any bytes.
func TestStatePaths(t *testing.T) {
	whole := segment("x", 1)
	long := strings.Repeat("x", 38)
	d := made(t, files{"-j": whole, "-j-j": whole + trailer("gone"), long + "-j": "", "a-s1-j": whole, "d/f-j": whole, "b-j-j": ""})
	for file, want := range map[string]int{
		"": Hot, "-j": Stale, long: Stale, "a-s1": Hot, "d/f": Hot, "b-j": Stale,
		"b": Clean, long + "x": Clean, long + "-j": Clean, long[1:]: Clean, "\x00": Clean, "a-s": Clean, " ": Clean, strings.Repeat("x", 100000): Clean,
	} {
		stateIs(t, "a path", d, file, want)
	}
}

// Promise 13.2: each disk call fails in turn.
func TestStateFails(t *testing.T) {
	for _, tail := range []string{"", trailer("a-s1"), trailer("a-s2"), "torn"} {
		for _, err := range anyErrors() {
			for n := 1; ; n++ {
				d := made(t, files{"a": "", "a-j": segment("x", 1) + tail, "a-s1": ""})
				ops := d.Ops()
				d.Faults([]disk.Fault{{At: ops + n, Err: err}})
				state, got := State(d, "a")
				if d.Ops() < ops+n {
					if n == 1 {
						t.Errorf("a journal of %d bytes has not been read", len(tail))
					}
					break
				}
				if state != 0 || got != err {
					t.Errorf("call %d: state %d, error %d, want error %d", n, state, got, err)
				}
			}
		}
	}
}

// Promise 13.2: a machine that is down, and one that goes down.
func TestStateDown(t *testing.T) {
	d := made(t, files{"a-j": segment("x", 1)})
	d.CrashAt(d.Ops() + 1)
	for range 2 {
		if n, err := State(d, "a"); n != 0 || err != api.ErrCrash {
			t.Errorf("state %d, error %d", n, err)
		}
	}
	d.Restart(nil)
	stateIs(t, "a machine that is up again", d, "a", Hot)
}

// Promise P1: a nil disk has no journals.
func TestStateNil(t *testing.T) {
	for _, file := range []string{"", "a", "a-j"} {
		if n, err := State(nil, file); n != Clean || err != api.OK {
			t.Errorf("State(nil, %q) = %d, error %d", file, n, err)
		}
	}
}

// anyErrors returns the errors of the disk, and some that it can be told to return.
func anyErrors() []api.Errno {
	return []api.Errno{
		api.ErrRange, api.ErrFull, api.ErrNone, api.ErrTwice, api.ErrState, api.ErrName, api.ErrIO, api.ErrQuota, api.ErrCorrupt, api.ErrCrash,
		api.ErrShort, api.ErrForm, api.ErrSum, -1, 1000,
	}
}
