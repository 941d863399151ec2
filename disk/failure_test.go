package disk

import (
	"errors"
	"fmt"
	"math"
	"slices"
	"strings"
	"testing"

	"annexe/api"
)

// Promise 7.5: a fault for each kind of call, and for calls that would fail anyway: the call is counted and has no effect.
func TestFault(t *testing.T) {
	for _, s := range append(steps(), impossible()...) {
		for _, err := range []api.Errno{api.ErrIO, api.ErrQuota, api.ErrCrash, api.ErrState, -1, 1000} {
			d := made(t, map[string]string{"a": "abc"})
			all(t, d.Write("a", 0, "x"), d.Create("b"))
			ops := d.Ops()
			d.Faults([]Fault{{ops + 1, err}})
			failsWith(t, s.name, s.do(d), err)
			if d.Ops() != ops+1 || d.Down() {
				t.Errorf("%s: %d calls, down %v", s.name, d.Ops()-ops, d.Down())
			}
			holds(t, s.name, d, map[string]string{"a": "xbc", "b": ""})
			d.Restart(nil)
			holds(t, s.name+", restarted", d, map[string]string{"a": "abc"})
		}
	}
}

// Promise 7.5: a Read that fails returns no bytes.
func TestFaultRead(t *testing.T) {
	d := made(t, map[string]string{"a": "abc"})
	d.Faults([]Fault{{d.Ops() + 1, api.ErrIO}})
	d.CrashAt(d.Ops() + 3)
	readIs(t, d, "a", 0, 9, "", api.ErrIO)
	readIs(t, d, "a", 0, 9, "abc", api.OK)
	readIs(t, d, "a", 0, 9, "", api.ErrCrash)
	readIs(t, d, "a", 0, 9, "", api.ErrCrash)
}

// Promise 7.5: which calls fail, of ten in a row behind two that were counted before.
func TestFaults(t *testing.T) {
	io, quota, ok := api.ErrIO, api.ErrQuota, api.OK
	for _, c := range []struct {
		l    []Fault
		want [10]api.Errno
	}{
		{nil, [10]api.Errno{}},
		{[]Fault{{3, io}}, [10]api.Errno{io}},
		{[]Fault{{4, io}}, [10]api.Errno{ok, io}},
		{[]Fault{{12, io}}, [10]api.Errno{9: io}},
		{[]Fault{{13, io}}, [10]api.Errno{}},
		{[]Fault{{6, quota}, {4, io}, {5, io}}, [10]api.Errno{ok, io, io, quota}},

		// Calls that have been counted already, and numbers that no call has.
		{[]Fault{{0, io}, {1, io}, {2, io}, {-1, io}, {math.MinInt64, io}, {math.MaxInt64, io}}, [10]api.Errno{}},
		{[]Fault{{2, io}, {3, quota}}, [10]api.Errno{quota}},

		// Of several faults for a number, the first one, but OK is none.
		{[]Fault{{3, io}, {3, quota}}, [10]api.Errno{io}},
		{[]Fault{{3, quota}, {4, io}, {3, io}, {4, quota}}, [10]api.Errno{quota, io}},
		{[]Fault{{3, ok}}, [10]api.Errno{}},
		{[]Fault{{3, ok}, {3, quota}, {3, io}}, [10]api.Errno{quota}},
		{[]Fault{{3, io}, {3, ok}}, [10]api.Errno{io}},
		{[]Fault{{3, io}, {3, io}, {3, io}}, [10]api.Errno{io}},
	} {
		d := New(-1)
		all(t, d.Create("a"), d.DirSync())
		l := slices.Clone(c.l)
		d.Faults(l)
		if !slices.Equal(l, c.l) {
			t.Errorf("%v has become %v", c.l, l)
		}
		// The list is not kept.
		clear(l)
		var got [10]api.Errno
		for i := range got {
			got[i] = d.Write("a", 0, "x")
		}
		if got != c.want {
			t.Errorf("%v: %v, want %v", c.l, got, c.want)
		}
	}
}

// Promise 7.5: Faults replaces all faults.
func TestFaultsReplaced(t *testing.T) {
	d := New(-1)
	d.Faults([]Fault{{1, api.ErrIO}, {2, api.ErrIO}})
	d.Faults([]Fault{{2, api.ErrQuota}, {3, api.ErrIO}})
	all(t, d.DirSync())
	failsWith(t, "the second call", d.DirSync(), api.ErrQuota)
	d.Faults(nil)
	all(t, d.DirSync())
	d.Faults([]Fault{{4, api.ErrIO}})
	d.Faults([]Fault{})
	all(t, d.DirSync())
	d.Faults([]Fault{{5, api.ErrIO}})
	d.Faults([]Fault{{5, api.OK}})
	all(t, d.DirSync())
}

// The chapter's section Ways: a fault is a wrapped error, which names the call.
func TestFaultWrapped(t *testing.T) {
	d := New(-1)
	all(t, d.DirSync())
	d.Faults([]Fault{{2, api.ErrIO}})
	err := d.begin()
	var f *failure
	if !errors.As(err, &f) || f.call != 2 || !errors.Is(err, api.ErrIO) || number(err) != api.ErrIO || err.Error() != "call 2: error 30" {
		t.Errorf("%v", err)
	}
	if n := number(errors.New("another one")); n != api.OK {
		t.Errorf("error %d", n)
	}
}

// Promise 7.5: a crash at each kind of call: the call takes effect (a sync does not), and the machine goes down.
func TestCrash(t *testing.T) {
	want := map[string]map[string]string{
		"Create":   {"a": "abc", "b": "", "new": ""},
		"Delete":   {"b": ""},
		"Read":     {"a": "abc", "b": ""},
		"Write":    {"a": "aXYZ", "b": ""},
		"Truncate": {"a": "a", "b": ""},
		"Sync":     {"a": "abc", "b": ""},
		"DirSync":  {"a": "abc", "b": ""},
	}
	survived := map[string]map[string]string{
		"Create":   {"a": "?bc", "new": ""},
		"Delete":   {},
		"Read":     {"a": "?bc"},
		"Write":    {"a": "?XYZ"},
		"Truncate": {"a": "?"},
		"Sync":     {"a": "?bc"},
		"DirSync":  {"a": "?bc"},
	}
	for _, s := range steps() {
		d := made(t, map[string]string{"a": "?bc"})
		// Two changes that a sync would make durable.
		all(t, d.Write("a", 0, "a"), d.Create("b"))
		ops := d.Ops()
		d.CrashAt(ops + 1)
		failsWith(t, s.name, s.do(d), api.ErrCrash)
		if !d.Down() || d.Ops() != ops+1 {
			t.Errorf("%s: down %v, %d calls", s.name, d.Down(), d.Ops()-ops)
		}
		holds(t, s.name+", down", d, want[s.name])
		d.Restart([]int{0, 0, 1})
		holds(t, s.name+", restarted", d, survived[s.name])
	}
}

// Promise 7.5: a crash at a call that has no effect or an error of its own.
func TestCrashImpossible(t *testing.T) {
	for _, s := range impossible() {
		d := made(t, map[string]string{"a": "abc"})
		all(t, d.Write("a", 0, "x"))
		ops := d.Ops()
		d.CrashAt(ops + 1)
		failsWith(t, s.name, s.do(d), api.ErrCrash)
		if !d.Down() || d.Ops() != ops+1 {
			t.Errorf("%s: down %v, %d calls", s.name, d.Down(), d.Ops()-ops)
		}
		holds(t, s.name+", down", d, map[string]string{"a": "xbc"})
		d.Restart([]int{1, 1, 1})
		holds(t, s.name+", restarted", d, map[string]string{"a": "xbc"})
	}
	d := New(2)
	all(t, d.Create("a"), d.Write("a", 0, "ab"), d.Sync("a"), d.DirSync())
	d.CrashAt(5)
	failsWith(t, "Write to a full disk", d.Write("a", 0, "xyz"), api.ErrCrash)
	d.Restart([]int{1})
	holds(t, "a full disk", d, map[string]string{"a": "ab"})
}

// Promise 7.5: at which calls the machine goes down.
func TestCrashAt(t *testing.T) {
	for _, c := range []struct {
		n    int
		want int // the number of the call, or 0
	}{
		{3, 3}, {4, 4}, {9, 9}, {2, 0}, {1, 0}, {0, 0}, {-1, 0}, {13, 0}, {math.MinInt64, 0}, {math.MaxInt64, 0},
	} {
		d := New(-1)
		all(t, d.Create("a"), d.DirSync())
		d.CrashAt(c.n)
		got := 0
		for range 10 {
			if err := d.Write("a", 0, "x"); err == api.ErrCrash {
				got = d.Ops()
				break
			}
		}
		if got != c.want || d.Down() != (c.want != 0) {
			t.Errorf("CrashAt(%d): call %d, want %d, down %v", c.n, got, c.want, d.Down())
		}
	}
}

// Promise 7.5: a crash replaces the previous one, also by one that will not come.
func TestCrashAtAnew(t *testing.T) {
	d := New(-1)
	d.CrashAt(1)
	d.CrashAt(2)
	all(t, d.DirSync())
	d.CrashAt(3)
	all(t, d.DirSync())
	d.CrashAt(0)
	all(t, d.DirSync())
	d.CrashAt(4)
	d.CrashAt(3)
	all(t, d.DirSync())
	d.CrashAt(5)
	failsWith(t, "the fifth call", d.DirSync(), api.ErrCrash)
}

// Promise 7.5: of a fault and a crash for the same call, the fault happens, and the crash does not come later.
func TestCrashWithFault(t *testing.T) {
	for _, s := range steps() {
		d := made(t, map[string]string{"a": "abc"})
		n := d.Ops() + 1
		d.Faults([]Fault{{n, api.ErrIO}})
		d.CrashAt(n)
		failsWith(t, s.name, s.do(d), api.ErrIO)
		if d.Down() || d.Ops() != n {
			t.Errorf("%s: down %v, %d calls", s.name, d.Down(), d.Ops())
		}
		holds(t, s.name, d, map[string]string{"a": "abc"})
		all(t, d.DirSync(), d.DirSync())
		// A fault whose error is OK does not prevent a crash.
		d.Faults([]Fault{{n + 3, api.OK}})
		d.CrashAt(n + 3)
		failsWith(t, s.name, s.do(d), api.ErrCrash)
	}
}

// Promise 7.5: while the machine is down, calls are not counted, do nothing, and reach neither faults nor crashes.
func TestDown(t *testing.T) {
	d := made(t, map[string]string{"a": "abc"})
	all(t, d.Write("a", 0, "x"), d.Create("b"))
	ops := d.Ops()
	d.CrashAt(ops + 1)
	failsWith(t, "the crash", d.Write("a", 1, "y"), api.ErrCrash)
	d.Faults([]Fault{{ops + 1, api.ErrIO}, {ops + 2, api.ErrIO}})
	d.CrashAt(ops + 2)
	for _, s := range append(steps(), impossible()...) {
		failsWith(t, s.name, s.do(d), api.ErrCrash)
		if !d.Down() || d.Ops() != ops+1 {
			t.Errorf("%s: down %v, %d calls", s.name, d.Down(), d.Ops()-ops)
		}
		holds(t, s.name, d, map[string]string{"a": "xyc", "b": ""})
	}
	d.Restart([]int{0, 0, 1})
	holds(t, "restarted", d, map[string]string{"a": "ayc"})
	if d.Down() || d.Ops() != ops+1 {
		t.Errorf("down %v, %d calls", d.Down(), d.Ops()-ops)
	}
}

// Promise 7.5: behind a Restart, no faults and no crash are set, and the count goes on.
func TestRestartClears(t *testing.T) {
	for _, crash := range []bool{false, true} {
		d := New(-1)
		all(t, d.Create("a"), d.Sync("a"), d.DirSync())
		if crash {
			d.CrashAt(4)
		}
		d.Write("a", 0, "x")
		d.Faults([]Fault{{5, api.ErrIO}, {6, api.ErrQuota}, {8, api.ErrIO}})
		d.CrashAt(7)
		if d.Down() != crash {
			t.Errorf("down %v", d.Down())
		}
		d.Restart(nil)
		if d.Down() || d.Ops() != 4 {
			t.Errorf("down %v, %d calls", d.Down(), d.Ops())
		}
		holds(t, "restarted", d, map[string]string{"a": ""})
		all(t, d.Write("a", 0, "y"), d.Sync("a"), d.DirSync(), d.DirSync())
		if d.Ops() != 8 {
			t.Errorf("%d calls", d.Ops())
		}
		// The numbers of calls go on, too.
		d.Faults([]Fault{{1, api.ErrIO}, {9, api.ErrQuota}})
		failsWith(t, "the ninth call", d.DirSync(), api.ErrQuota)
		d.CrashAt(10)
		failsWith(t, "the tenth call", d.DirSync(), api.ErrCrash)
	}
}

// Promise 7.5: what a choice does to each kind of change.
func TestRestartChoices(t *testing.T) {
	const lost, applied, partly = 0, 1, 2
	// The choices with each remainder modulo 3, as unsigned numbers: 2^64 is 1
	// modulo 3, so that -1 has the remainder 0, -2 has 2, and -3 has 1.
	choices := map[int][]int{
		lost:    {0, 3, 6, 3000, -1, -4, math.MaxInt64 - 1},
		applied: {1, 4, 7, 3001, -3, -6, math.MaxInt64},
		partly:  {2, 5, 8, 3002, -2, -5, math.MinInt64},
	}
	for effect, l := range choices {
		for _, choice := range l {
			if int(uint64(choice)%3) != effect {
				t.Fatalf("choice %d", choice)
			}
			for _, s := range steps() {
				d := made(t, map[string]string{"a": "abc"})
				all(t, s.do(d))
				after := seen(d)
				d.Restart([]int{choice})
				want := after
				if effect == lost {
					want = map[string]string{"a": "abc"}
				} else if effect == partly && s.name == "Write" {
					part := "XYZ"[:uint64(choice)/3%4]
					want = map[string]string{"a": ("a" + part + "bc"[min(len(part), 2):])}
				}
				holds(t, fmt.Sprintf("%s, choice %d", s.name, choice), d, want)
			}
		}
	}
}

// Promise 7.5: which part of a Write survives.
func TestRestartParts(t *testing.T) {
	for _, c := range []struct {
		before string
		at     int
		data   string
		choice int
		want   string
	}{
		{"abcd", 1, "XYZ", 2 + 3*0, "abcd"},
		{"abcd", 1, "XYZ", 2 + 3*1, "aXcd"},
		{"abcd", 1, "XYZ", 2 + 3*2, "aXYd"},
		{"abcd", 1, "XYZ", 2 + 3*3, "aXYZ"},
		{"abcd", 1, "XYZ", 2 + 3*4, "abcd"},
		{"abcd", 1, "XYZ", 2 + 3*5, "aXcd"},
		{"abcd", 1, "XYZ", 2 + 3*1000003, "aXYZ"},
		{"abcd", 3, "XYZ", 2 + 3*1, "abcX"},
		{"abcd", 3, "XYZ", 2 + 3*2, "abcXY"},

		// Behind a gap: without a byte of the Write, there is no gap either.
		{"ab", 4, "XY", 2 + 3*0, "ab"},
		{"ab", 4, "XY", 2 + 3*1, "ab\x00\x00X"},
		{"ab", 4, "XY", 2 + 3*2, "ab\x00\x00XY"},
		{"ab", 4, "XY", 2 + 3*3, "ab"},
		{"", 0, "X", 2, ""},
		{"", 0, "X", 5, "X"},

		// (2^64 - 2) / 3 = 6148914691236517204, which is 0 modulo 4 and 1 modulo 3;
		// 2^63 / 3 = 3074457345618258602, which is 2 modulo 4.
		{"abcd", 1, "XYZ", -2, "abcd"},
		{"abcd", 1, "XY", -2, "aXcd"},
		{"abcd", 1, "XYZ", math.MinInt64, "aXYd"},

		{"abcd", 1, "XYZ", 0, "abcd"},
		{"abcd", 1, "XYZ", 9, "abcd"},
		{"abcd", 1, "XYZ", 1, "aXYZ"},
		{"abcd", 1, "XYZ", 4, "aXYZ"},
	} {
		d := made(t, map[string]string{"a": c.before})
		all(t, d.Write("a", c.at, c.data))
		d.Restart([]int{c.choice})
		holds(t, fmt.Sprintf("%q, %q at %d, choice %d", c.before, c.data, c.at, c.choice), d, map[string]string{"a": c.want})
	}
}

// Promise 7.5: choices are taken in the order of the changes, whichever files they change; what is missing is 0.
func TestRestartOrder(t *testing.T) {
	for _, c := range []struct {
		choices []int
		want    map[string]string
	}{
		{nil, map[string]string{"a": "abc", "c": "cde"}},
		{[]int{}, map[string]string{"a": "abc", "c": "cde"}},
		{[]int{1}, map[string]string{"a": "xbc", "c": "cde"}},
		{[]int{0, 1}, map[string]string{"a": "abc", "b": "", "c": "cde"}},
		{[]int{0, 0, 1}, map[string]string{"a": "abc", "c": "cde"}},
		{[]int{0, 1, 1}, map[string]string{"a": "abc", "b": "y", "c": "cde"}},
		{[]int{0, 0, 0, 1}, map[string]string{"a": "a", "c": "cde"}},
		{[]int{0, 0, 0, 0, 1}, map[string]string{"a": "abc"}},
		{[]int{0, 0, 0, 0, 0, 1}, map[string]string{"a": "abz", "c": "cde"}},
		{[]int{1, 1, 1, 1, 1, 1}, map[string]string{"a": "x\x00z", "b": "y"}},
		{[]int{1, 1, 1, 1, 1, 1, 1, 0, -1}, map[string]string{"a": "x\x00z", "b": "y"}},
		{[]int{1, 0, 1, 2, 2, 2}, map[string]string{"a": "x"}},
		{[]int{1, 2, 2, 2, 0, 5}, map[string]string{"a": "x\x00z", "b": "", "c": "cde"}},
	} {
		d := made(t, map[string]string{"a": "abc", "c": "cde"})
		all(t, d.Write("a", 0, "x"), d.Create("b"), d.Write("b", 0, "y"), d.Truncate("a", 1), d.Delete("c"), d.Write("a", 2, "z"))
		choices := slices.Clone(c.choices)
		d.Restart(choices)
		if !slices.Equal(choices, c.choices) {
			t.Errorf("%v has become %v", c.choices, choices)
		}
		holds(t, fmt.Sprint(c.choices), d, c.want)
		// What has survived is durable, and nothing is pending.
		d.Restart([]int{1, 1, 1, 1, 1, 1, 1, 1})
		holds(t, fmt.Sprint(c.choices, ", restarted twice"), d, c.want)
	}
}

// Promise 7.5: calls that failed, had no effect, or wrote no data take no choice; a Truncate to the same size does.
func TestRestartWhatIsAChange(t *testing.T) {
	d := made(t, map[string]string{"a": "abc"})
	for _, s := range impossible() {
		s.do(d)
	}
	d.Faults([]Fault{{d.Ops() + 1, api.ErrIO}})
	failsWith(t, "the fault", d.Write("a", 0, "x"), api.ErrIO)
	all(t, d.Write("a", 0, ""), d.Write("a", 3, ""), d.Sync("a"), d.DirSync())
	readIs(t, d, "a", 0, 1, "a", api.OK)
	all(t, d.Truncate("a", 3), d.Write("a", 0, "a"), d.Write("a", 1, "Y"))
	d.Restart([]int{0, 0, 1})
	holds(t, "the third change applied", d, map[string]string{"a": "aYc"})
	all(t, d.Truncate("a", 3), d.Write("a", 0, "a"), d.Write("a", 1, "Z"))
	d.Restart([]int{1, 1})
	holds(t, "the third change lost", d, map[string]string{"a": "aYc"})
}

// Promise 7.5: a file that is deleted, and another one that is created under its path, before anything is synced.
func TestRestartTwoFilesOfOnePath(t *testing.T) {
	for _, c := range []struct {
		what    string
		choices []int
		want    map[string]string
	}{
		{"nothing", nil, map[string]string{"a": "old"}},
		{"the first Write", []int{1, 0, 0, 0}, map[string]string{"a": "OLD"}},
		{"the Delete", []int{0, 1, 0, 0}, map[string]string{}},
		{"the Delete and both Writes", []int{1, 1, 0, 1}, map[string]string{}},
		// The Create alone: the path refers to the new file, although the Delete is lost.
		{"the Create", []int{0, 0, 1, 0}, map[string]string{"a": ""}},
		{"the Create and the first Write", []int{1, 0, 1, 0}, map[string]string{"a": ""}},
		{"the Create and its Write", []int{0, 0, 1, 1}, map[string]string{"a": "n"}},
		{"the second Write", []int{0, 0, 0, 1}, map[string]string{"a": "old"}},
		{"both Writes", []int{1, 0, 0, 1}, map[string]string{"a": "OLD"}},
		{"all", []int{1, 1, 1, 1}, map[string]string{"a": "n"}},
	} {
		d := made(t, map[string]string{"a": "old"})
		all(t, d.Write("a", 0, "OLD"), d.Delete("a"), d.Create("a"), d.Write("a", 0, "n"))
		holds(t, c.what+", before", d, map[string]string{"a": "n"})
		d.Restart(c.choices)
		holds(t, c.what, d, c.want)
	}
}

// Promises 7.3 and 7.5: Sync reaches the file to which a path refers now, not the one to which it referred.
func TestSyncTwoFilesOfOnePath(t *testing.T) {
	d := made(t, map[string]string{"a": "old"})
	all(t, d.Write("a", 0, "OLD"), d.Delete("a"), d.Create("a"), d.Write("a", 0, "n"), d.Sync("a"))
	d.Restart(nil)
	holds(t, "the new file's Sync", d, map[string]string{"a": "old"})

	d = made(t, map[string]string{"a": "old"})
	all(t, d.Write("a", 0, "OLD"), d.Sync("a"), d.Delete("a"), d.Create("a"), d.Write("a", 0, "n"))
	d.Restart([]int{0, 0, 1})
	holds(t, "the old file's Sync", d, map[string]string{"a": "OLD"})

	d = made(t, map[string]string{"a": "old"})
	all(t, d.Delete("a"), d.Create("a"), d.Write("a", 0, "n"), d.Sync("a"), d.DirSync())
	d.Restart(nil)
	holds(t, "all synced", d, map[string]string{"a": "n"})
}

// Promise 7.5: the contents of a file that no path refers to are pending as well, so that their changes take choices.
func TestRestartOfNoPath(t *testing.T) {
	d := made(t, map[string]string{"a": "old"})
	all(t, d.Create("b"), d.Write("b", 0, "x"), d.Truncate("b", 9), d.Delete("b"), d.DirSync(), d.Write("a", 0, "new"))
	d.Restart([]int{1, 1, 0, 1})
	holds(t, "the third change lost", d, map[string]string{"a": "old"})

	// A file whose Create is lost keeps its bytes to itself.
	all(t, d.Create("b"), d.Write("b", 0, "x"), d.Sync("b"), d.Delete("b"), d.Create("b"))
	d.Restart([]int{0, 0, 1})
	holds(t, "the second file", d, map[string]string{"a": "old", "b": ""})
	all(t, d.Delete("b"), d.Create("b"), d.Write("b", 0, "y"), d.Delete("b"))
	d.Restart([]int{1, 1, 1, 0})
	holds(t, "the Delete lost", d, map[string]string{"a": "old", "b": "y"})
}

// Promise 7.5: a Restart is the same whether the machine is up or down.
func TestRestartUpOrDown(t *testing.T) {
	for _, choices := range [][]int{nil, {1}, {0, 1}, {1, 1}, {2, 2}, {5, 1}, {1, 5}} {
		up, down := made(t, map[string]string{"a": "abc"}), made(t, map[string]string{"a": "abc"})
		all(t, up.Write("a", 0, "xy"), up.Write("a", 1, "z"))
		all(t, down.Write("a", 0, "xy"))
		down.CrashAt(down.Ops() + 1)
		failsWith(t, "the crash", down.Write("a", 1, "z"), api.ErrCrash)
		up.Restart(choices)
		down.Restart(choices)
		holds(t, fmt.Sprint(choices), down, seen(up))
	}
}

// Promise 7.6: what is synced survives every Restart, whatever becomes of the rest.
func TestSyncedSurvives(t *testing.T) {
	for first := range 12 {
		for second := range 12 {
			d := New(-1)
			all(t, d.Create("a"), d.Create("b"), d.Write("b", 0, "bcd"), d.Write("a", 3, "synced"), d.Truncate("a", 6), d.Sync("a"), d.DirSync())
			all(t, d.Write("b", 1, "XYZ"))
			d.Restart([]int{first, second, first, second})
			if s, ok := d.Content("a"); s != "\x00\x00\x00syn" || !ok {
				t.Errorf("choices %d and %d: a is %q, %v", first, second, s, ok)
			}
			if _, ok := d.Content("b"); !ok {
				t.Errorf("choices %d and %d: b is not there", first, second)
			}
		}
	}
}

// Promise 7.6: a Restart with nothing pending changes nothing that is visible or durable.
func TestRestartChangesNothing(t *testing.T) {
	want := map[string]string{"a": "abc", "e": "", "long": strings.Repeat("x", 5000)}
	for _, choices := range [][]int{nil, {0}, {1, 1, 1}, {2, 5, 8}, {-1}} {
		d := made(t, want)
		for range 3 {
			d.Restart(choices)
			holds(t, fmt.Sprint(choices), d, want)
		}
		// The two states share neither contents nor a directory.
		all(t, d.Write("a", 0, "x"), d.Write("long", 0, "y"), d.Truncate("e", 5), d.Delete("e"), d.Create("new"))
		d.Restart(nil)
		holds(t, "all changes lost", d, want)
	}
}
