package pager

import (
	"fmt"
	"maps"
	"strings"
	"testing"

	"annexe/api"
	"annexe/disk"
	"annexe/hot"
	"annexe/jread"
)

// untouched requires that some calls make no disk call.
func untouched(t *testing.T, what string, d *disk.Disk, calls func()) {
	t.Helper()
	ops := d.Ops()
	calls()
	if n := d.Ops() - ops; n != 0 {
		t.Errorf("%s: %d disk calls", what, n)
	}
}

// has requires that the file has these pages, and nothing else, and that a
// machine that crashes keeps them.
func has(t *testing.T, what string, d *disk.Disk, want string) {
	t.Helper()
	for range 2 {
		if content, _ := d.Content("a"); content != of(want) {
			t.Errorf("%s: %d bytes, pages %.40q, want %.40q", what, len(content), letters(content), want)
		}
		d.Restart(nil)
	}
}

// journalOf returns what the journal has, and requires that a machine that
// crashes keeps it.
func journalOf(t *testing.T, what string, d *disk.Disk) jread.Journal {
	t.Helper()
	content, there := d.Content("a-j")
	d.Restart(nil)
	kept, still := d.Content("a-j")
	if !there || !still || content != kept {
		t.Errorf("%s: the journal is not durable: %d bytes and then %d", what, len(content), len(kept))
	}
	return jread.Read(kept)
}

// Promise 14.4: a transaction in which nothing was written.
func TestUnchanged(t *testing.T) {
	p, d := begun(t, "xyz", 2)
	l := seen(d)
	untouched(t, "nothing", d, func() {
		for _, end := range []func() api.Errno{p.Finish, p.Commit, p.Rollback} {
			for range 2 {
				all(t, p.Flush(), p.Journal(), p.Name("boss"), p.Name(""), p.Name(strings.Repeat("s", 41)), p.Flush())
			}
			if !p.Active() || p.Changed() {
				t.Errorf("Active %v, Changed %v", p.Active(), p.Changed())
			}
			// What fails is no Write, and what goes back to nothing is none.
			failsWith(t, "page 5", p.Write(5, sheet('x')), api.ErrRange)
			saves(t, p, 1)
			all(t, p.Back(1), p.Drop(1), p.Flush())
			all(t, end())
			failsWith(t, "behind the end", p.Journal(), api.ErrState)
			all(t, p.Begin())
		}
	})
	if !maps.Equal(seen(d), l) {
		t.Error("the disk has changed")
	}
	holds(t, "nothing", p, "xyz")
}

// Promise 14.2: a transaction is still Changed after Back.
func TestChanged(t *testing.T) {
	p, d := begun(t, "xyz", 2)
	saves(t, p, 1)
	all(t, p.Write(1, sheet('a')), p.Back(1))
	if !p.Changed() {
		t.Error("not Changed")
	}
	failsWith(t, "Flush", p.Flush(), api.ErrState)
	all(t, p.Drop(1))
	if !p.Changed() {
		t.Error("not Changed after Drop")
	}
	all(t, p.Commit())
	has(t, "the same pages", d, "xyz")
}

// Promise 14.4: the journal has all that is needed to restore the file, and is
// durable.
func TestJournal(t *testing.T) {
	for _, c := range []struct{ what, pages, write, back string }{
		{"a page", "xyz", "a", ""},
		{"the last page", "xyz", "..c", ""},
		{"all pages", "xyz", "abc", ""},
		{"a new page", "xyz", "...d", ""},
		{"new pages", "xyz", "...def", ""},
		{"an empty file", "", "abc", ""},
		{"old and new pages", "xyz", "abcdef", ""},
		{"the same page", "xyz", "x", ""},
		{"pages after Back", "xyz", "a.c", "abcde"},
		{"nothing after Back", "xyz", "", "abcde"},
	} {
		for _, keep := range []int{2, 3, 4, 100} {
			what := fmt.Sprintf("%s, keep %d", c.what, keep)
			p, d := begun(t, c.pages, keep)
			saves(t, p, 1)
			write(t, p, c.back)
			all(t, p.Back(1))
			write(t, p, c.write)
			now := read(t, p)
			all(t, p.Journal())
			untouched(t, what, d, func() { all(t, p.Journal()) })
			j := journalOf(t, what, d)
			if j.Parts < 1 || j.Pages != len(c.pages) || j.Super != "" {
				t.Errorf("%s: %d segments of %d pages, super-journal %q", what, j.Parts, j.Pages, j.Super)
			}
			if s := j.Apply(of(now)); s != of(c.pages) {
				t.Errorf("%s: the journal restores %q", what, letters(s))
			}
			if n := state(t, d); n != hot.Hot {
				t.Errorf("%s: state %d", what, n)
			}
			holds(t, what+", opened again", opened(t, d, 2), c.pages)
		}
	}
}

// Promise 14.4: together with the journal, the pages that are not in it restore
// the file, also if they were not durable at Begin.
func TestJournalRest(t *testing.T) {
	for _, keep := range []int{2, 100} {
		d := made(t, files{"a": of("123")})
		all(t, d.Write("a", 0, of("xyz")))
		p := opened(t, d, keep)
		all(t, p.Begin())
		write(t, p, ".b.de")
		all(t, p.Journal())
		d.Restart(nil)
		holds(t, fmt.Sprint("keep ", keep), opened(t, d, 2), "xyz")
	}
}

// Promise 14.4: Journal, Flush and Finish, one by one.
func TestSteps(t *testing.T) {
	p, d := begun(t, "xyz", 10)
	write(t, p, "a..d")
	failsWith(t, "Flush", p.Flush(), api.ErrState)
	failsWith(t, "Name", p.Name("boss"), api.ErrState)
	failsWith(t, "Finish", p.Finish(), api.ErrState)
	all(t, p.Journal())
	failsWith(t, "Finish", p.Finish(), api.ErrState)
	has(t, "before Flush", d, "xyz")
	all(t, p.Flush())
	has(t, "after Flush", d, "ayzd")
	holds(t, "after Flush", p, "ayzd")
	untouched(t, "another Flush", d, func() { all(t, p.Flush()) })
	if n := state(t, d); n != hot.Hot {
		t.Errorf("before Finish: state %d", n)
	}
	all(t, p.Finish())
	if l := seen(d); !maps.Equal(l, files{"a": of("ayzd"), "boss": ""}) {
		t.Errorf("after Finish: %d files", len(l))
	}
	d.Restart(nil)
	if l := seen(d); !maps.Equal(l, files{"a": of("ayzd"), "boss": ""}) {
		t.Errorf("after Finish and a restart: %d files", len(l))
	}
	holds(t, "after Finish", p, "ayzd")
	if p.Active() || p.Changed() {
		t.Error("the transaction goes on")
	}
}

// Promise 14.4: a Write or a Back between the steps.
func TestStepsAgain(t *testing.T) {
	for i, change := range []func(p *Pager) api.Errno{
		func(p *Pager) api.Errno { return p.Write(1, sheet('b')) },
		func(p *Pager) api.Errno { return p.Write(5, sheet('b')) },
		func(p *Pager) api.Errno { return p.Back(1) },
		func(p *Pager) api.Errno { return p.Back(2) },
	} {
		what := fmt.Sprint("change ", i)
		p, d := begun(t, "xyz", 3)
		saves(t, p, 1)
		write(t, p, "a..d")
		saves(t, p, 2)
		all(t, p.Journal(), change(p))
		failsWith(t, what+", Name", p.Name("boss"), api.ErrState)
		failsWith(t, what+", Flush", p.Flush(), api.ErrState)
		failsWith(t, what+", Finish", p.Finish(), api.ErrState)
		all(t, p.Journal(), p.Flush())
		if i < 2 {
			all(t, change(p))
		} else {
			all(t, p.Back(1))
		}
		failsWith(t, what+", Finish", p.Finish(), api.ErrState)
		failsWith(t, what+", Flush", p.Flush(), api.ErrState)
		failsWith(t, what+", Name", p.Name("boss"), api.ErrState)
		all(t, p.Journal(), p.Flush(), p.Name("boss"), p.Finish())
		want := []string{"byzd", "ayzdb", "xyz", "xyz"}[i]
		holds(t, what, p, want)
		has(t, what, d, want)
	}
}

// Promise 14.4: calls that fail change nothing, so that what has been performed
// still is.
func TestStepsErrors(t *testing.T) {
	p, d := begun(t, "xyz", 3)
	write(t, p, "a")
	all(t, p.Journal())
	failsWith(t, "page 9", p.Write(9, sheet('b')), api.ErrRange)
	failsWith(t, "a short page", p.Write(1, "b"), api.ErrLong)
	failsWith(t, "savepoint 1", p.Back(1), api.ErrRange)
	failsWith(t, "Name", p.Name(""), api.ErrName)
	all(t, p.Flush())
	failsWith(t, "page 9", p.Write(9, sheet('b')), api.ErrRange)
	failsWith(t, "savepoint 0", p.Back(0), api.ErrRange)
	failsWith(t, "Begin", p.Begin(), api.ErrState)
	saves(t, p, 1)
	all(t, p.Drop(1), p.Finish())
	has(t, "after Finish", d, "ayz")
}

// Promise 14.4: the trailer, and the paths that it may have.
func TestName(t *testing.T) {
	for _, path := range []string{"b", "boss", "a-s1", "a", "a-j", "\x00", "é", " ", strings.Repeat("s", 40)} {
		p, d := begun(t, "xyz", 2)
		write(t, p, "abcd")
		all(t, p.Journal(), p.Name(path))
		if j := journalOf(t, path, d); j.Super != path || j.Apply("") == "" {
			t.Errorf("%q: the journal names %q", path, j.Super)
		}
		all(t, p.Flush(), p.Finish())
		holds(t, path, p, "abcd")
	}
	p, d := begun(t, "xyz", 2)
	write(t, p, "ab")
	all(t, p.Journal())
	untouched(t, "no path", d, func() {
		for _, path := range []string{"", strings.Repeat("s", 41), strings.Repeat("s", 1000)} {
			failsWith(t, "no path", p.Name(path), api.ErrName)
		}
	})
	if j := journalOf(t, "no path", d); j.Super != "" {
		t.Errorf("the journal names %q", j.Super)
	}
	// It has not been named, so that the transaction may go on.
	all(t, p.Write(1, sheet('c')), p.Journal(), p.Name("boss"), p.Flush(), p.Finish())
	has(t, "no path", d, "cbz")
}

// Promise 14.4: every call after a Name that appended a trailer.
func TestNamed(t *testing.T) {
	for _, flushed := range []bool{false, true} {
		p, d := begun(t, "xyz", 2)
		write(t, p, "a")
		saves(t, p, 1)
		write(t, p, "bcde")
		all(t, p.Journal())
		if flushed {
			all(t, p.Flush())
		}
		all(t, p.Name("boss"))
		l := seen(d)
		untouched(t, "after Name", d, func() {
			for i, err := range []api.Errno{
				p.Write(1, sheet('d')), p.Write(0, ""), p.Back(1), p.Back(0), p.Journal(), p.Name("boss"), p.Name(""), p.Commit(), p.Begin(),
			} {
				failsWith(t, fmt.Sprint("after Name, call ", i), err, api.ErrState)
			}
			failsWith(t, "after Name, Drop", p.Drop(2), api.ErrRange)
			saves(t, p, 2)
			all(t, p.Drop(1))
			if !flushed {
				failsWith(t, "after Name, Finish", p.Finish(), api.ErrState)
			}
		})
		if !p.Active() || !p.Changed() || !maps.Equal(seen(d), l) {
			t.Error("something has changed")
		}
		holds(t, "after Name", p, "bcde")
		all(t, p.Flush(), p.Finish())
		has(t, "after Finish", d, "bcde")
		// The next transaction is not named.
		all(t, p.Begin(), p.Write(1, sheet('e')), p.Commit())
		has(t, "after Commit", d, "ecde")
	}
}

// Promise 14.4: Commit of all kinds of changes, with more and fewer pages than
// are held.
func TestCommit(t *testing.T) {
	for _, keep := range []int{2, 3, 5, 100} {
		d := made(t, files{"a": of("xyz")[:1100]})
		p := opened(t, d, keep)
		for _, c := range []struct{ write, want string }{
			{"a", "ay"}, {"", "ay"}, {".b", "ab"}, {"cd", "cd"}, {"..e", "cde"}, {"...fghijkl", "cdefghijkl"}, {"M", "Mdefghijkl"}, {"abcdefghijklm", "abcdefghijklm"},
		} {
			all(t, p.Begin())
			write(t, p, c.write)
			all(t, p.Commit())
			what := fmt.Sprintf("keep %d, %q", keep, c.write)
			if p.Active() {
				t.Errorf("%s: the transaction goes on", what)
			}
			holds(t, what, p, c.want)
			if c.write != "" && !maps.Equal(seen(d), files{"a": of(c.want)}) {
				t.Errorf("%s: %d files", what, len(seen(d)))
			}
			d.Restart(nil)
			holds(t, what+", opened again", opened(t, d, keep), c.want)
		}
	}
}

// Promise 14.5: Rollback before anything has been written, after some pages
// have been, and after each step.
func TestRollback(t *testing.T) {
	p, d := begun(t, "xyz", 10)
	write(t, p, "abcdef")
	untouched(t, "before anything is written", d, func() { all(t, p.Rollback()) })
	holds(t, "before anything is written", p, "xyz")

	name := func(path string) func(*Pager) api.Errno { return func(p *Pager) api.Errno { return p.Name(path) } }
	for _, keep := range []int{2, 100} {
		for i, steps := range [][]func(*Pager) api.Errno{
			{}, {(*Pager).Journal}, {(*Pager).Journal, (*Pager).Flush},
			{(*Pager).Journal, name("boss")}, {(*Pager).Journal, name("boss"), (*Pager).Flush}, {(*Pager).Journal, (*Pager).Flush, name("boss")},
		} {
			for _, lose := range []bool{false, true} {
				what := fmt.Sprintf("keep %d, steps %d, lose %v", keep, i, lose)
				p, d := begun(t, "xyz", keep)
				write(t, p, "abcdef")
				for _, step := range steps {
					all(t, step(p))
				}
				if lose {
					untouched(t, what, d, p.Lose)
				} else {
					all(t, p.Rollback())
				}
				if p.Active() || p.Changed() {
					t.Errorf("%s: the transaction goes on", what)
				}
				holds(t, what, p, "xyz")
				has(t, what, d, "xyz")
				if n := state(t, d); n != hot.Clean {
					t.Errorf("%s: state %d", what, n)
				}
				all(t, p.Begin(), p.Write(1, sheet('1')), p.Commit())
				holds(t, what+", and then", p, "1yz")
			}
		}
	}
}

// Promise 14.5: the super-journal does not exist, or does not exist any more.
func TestRollbackGone(t *testing.T) {
	for _, lose := range []bool{false, true} {
		for _, flushFirst := range []bool{false, true} {
			for _, path := range []string{"gone", "boss"} {
				p, d := begun(t, "xyz", 2)
				write(t, p, "ab.de")
				all(t, p.Journal())
				if flushFirst {
					all(t, p.Flush(), p.Name(path))
				} else {
					all(t, p.Name(path), p.Flush())
				}
				d.Delete(path)
				if lose {
					p.Lose()
				} else {
					all(t, p.Rollback())
				}
				what := fmt.Sprintf("%s, lose %v", path, lose)
				holds(t, what, p, "abzde")
				has(t, what, d, "abzde")
				if n := state(t, d); n != hot.Clean {
					t.Errorf("%s: state %d", what, n)
				}
			}
		}
	}
	// Nothing has been flushed.
	p, d := begun(t, "xyz", 10)
	write(t, p, "abcde")
	all(t, p.Journal(), p.Name("gone"), p.Rollback())
	holds(t, "not flushed", p, "xyz")
	has(t, "not flushed", d, "xyz")
}

// lostCalls are all calls that restore the file of a lost pager.
func lostCalls() []func(p *Pager) api.Errno {
	return []func(p *Pager) api.Errno{
		func(p *Pager) api.Errno { _, err := p.Pages(); return err },
		func(p *Pager) api.Errno { _, err := p.Read(1); return err },
		func(p *Pager) api.Errno { _, err := p.Read(0); return err },
		func(p *Pager) api.Errno { return p.Begin() },
		func(p *Pager) api.Errno { return p.Write(1, sheet('w')) },
		func(p *Pager) api.Errno { _, err := p.Save(); return err },
		func(p *Pager) api.Errno { return p.Back(1) },
		func(p *Pager) api.Errno { return p.Drop(1) },
		func(p *Pager) api.Errno { return p.Journal() },
		func(p *Pager) api.Errno { return p.Name("") },
		func(p *Pager) api.Errno { return p.Flush() },
		func(p *Pager) api.Errno { return p.Finish() },
		func(p *Pager) api.Errno { return p.Commit() },
		func(p *Pager) api.Errno { return p.Rollback() },
	}
}

// Promise 14.5: every call on a lost pager restores the file first, and returns
// the error of this as long as there is one.
func TestLost(t *testing.T) {
	wants := []api.Errno{0, 0, api.ErrRange, 0, 10, 10, 10, 10, 10, 10, 10, 10, 10, 10}
	for i, call := range lostCalls() {
		for _, within := range []bool{false, true} {
			for _, code := range anyErrors() {
				what := fmt.Sprintf("call %d, within %v, error %d", i, within, code)
				p, d := begun(t, "xyz", 2)
				if within {
					write(t, p, "abcd")
					all(t, p.Journal(), p.Flush())
				} else {
					all(t, p.Rollback())
					// Somebody else has left this.
					all(t, d.Create("a-j"), d.Write("a-j", 0, segment("xyz", 3)), d.Write("a", 0, of("1234")))
				}
				untouched(t, what, d, p.Lose)
				fails(t, what, d, code, func() api.Errno { return call(p) })
				untouched(t, what, d, func() {
					if p.Active() || p.Changed() {
						t.Errorf("%s: a transaction", what)
					}
					p.Lose()
				})
				fails(t, what+", again", d, code, func() api.Errno { return call(p) })
				failsWith(t, what+", at last", call(p), wants[i])
				has(t, what, d, "xyz")
				if n := state(t, d); n != hot.Clean {
					t.Errorf("%s: state %d", what, n)
				}
				// It is not lost any more.
				untouched(t, what+", not lost", d, func() { p.Pages() })
				holds(t, what, p, "xyz")
			}
		}
	}
}

// fails requires that a call fails at its next disk call, and stops there.
func fails(t *testing.T, what string, d *disk.Disk, code api.Errno, call func() api.Errno) {
	t.Helper()
	ops := d.Ops()
	d.Faults([]disk.Fault{{At: ops + 1, Err: code}})
	failsWith(t, what, call(), code)
	if n := d.Ops() - ops; n != 1 {
		t.Errorf("%s: %d disk calls", what, n)
	}
	d.Faults(nil)
}

// Promise 14.5: a Rollback that fails ends the transaction, and the pager is lost.
func TestRollbackFails(t *testing.T) {
	for n := 1; ; n++ {
		p, d := begun(t, "xyz", 2)
		write(t, p, "abcd")
		at := d.Ops() + n
		d.Faults([]disk.Fault{{At: at, Err: api.ErrIO}})
		err := p.Rollback()
		if d.Ops() < at {
			all(t, err)
			break
		}
		what := fmt.Sprint("call ", n)
		failsWith(t, what, err, api.ErrIO)
		if p.Active() || p.Changed() {
			t.Errorf("%s: the transaction goes on", what)
		}
		for i, call := range lostCalls() {
			fails(t, fmt.Sprint(what, ", lost, call ", i), d, api.ErrQuota, func() api.Errno { return call(p) })
		}
		failsWith(t, what+", Rollback", p.Rollback(), api.ErrState)
		holds(t, what, p, "xyz")
		has(t, what, d, "xyz")
	}
}
