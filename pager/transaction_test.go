package pager

import (
	"fmt"
	"strings"
	"testing"

	"annexe/api"
)

// ends returns what ends a transaction.
func ends(p *Pager) []func() api.Errno {
	return []func() api.Errno{p.Finish, p.Commit, p.Rollback, func() api.Errno { p.Lose(); return api.OK }}
}

// Promise 14.3: a transaction begins and ends.
func TestBegin(t *testing.T) {
	d := made(t, files{"a": of("x")})
	p := opened(t, d, 2)
	for i, end := range ends(p) {
		what := fmt.Sprint("end ", i)
		for _, change := range []bool{false, true} {
			if p.Active() || p.Changed() {
				t.Errorf("%s: a transaction", what)
			}
			all(t, p.Begin())
			failsWith(t, what+", Begin", p.Begin(), api.ErrState)
			if !p.Active() || p.Changed() {
				t.Errorf("%s: Active %v, Changed %v", what, p.Active(), p.Changed())
			}
			if change {
				all(t, p.Write(1, sheet('y')), p.Journal(), p.Flush())
				failsWith(t, what+", Begin", p.Begin(), api.ErrState)
				if !p.Active() || !p.Changed() {
					t.Errorf("%s: Active %v, Changed %v", what, p.Active(), p.Changed())
				}
			}
			all(t, end())
		}
	}
}

// Promises 14.3 to 14.5: without a transaction.
func TestNoTransaction(t *testing.T) {
	none := func(what string, p *Pager, want string) {
		t.Helper()
		for i, err := range []api.Errno{
			p.Write(1, sheet('y')), p.Write(0, ""), p.Back(1), p.Back(0), p.Drop(1), p.Drop(-1),
			p.Journal(), p.Name("boss"), p.Name(""), p.Flush(), p.Finish(), p.Commit(), p.Rollback(),
		} {
			failsWith(t, fmt.Sprint(what, ", call ", i), err, api.ErrState)
		}
		if k, err := p.Save(); k != 0 || err != api.ErrState {
			t.Errorf("%s, Save: %d, error %d", what, k, err)
		}
		if p.Active() || p.Changed() {
			t.Errorf("%s: Active %v, Changed %v", what, p.Active(), p.Changed())
		}
		holds(t, what, p, want)
	}
	p, d := begun(t, "x", 2)
	all(t, p.Rollback())
	none("after Rollback", p, "x")
	none("opened again", opened(t, d, 2), "x")
	all(t, p.Begin(), p.Write(2, sheet('y')), p.Rollback())
	none("after a Rollback of a change", p, "x")
	all(t, p.Begin(), p.Write(2, sheet('y')), p.Commit())
	none("after Commit", p, "xy")
	all(t, p.Begin(), p.Commit())
	none("after a Commit of nothing", p, "xy")
	all(t, p.Begin(), p.Write(2, sheet('z')))
	p.Lose()
	none("after Lose", p, "xy")
	p.Lose()
	none("after another Lose", p, "xy")
}

// Promise 14.3: which pages can be written, and with which data.
func TestWriteErrors(t *testing.T) {
	for _, count := range []int{0, 1, 3, 1998, 1999, 2000, 2001, 2010} {
		p, _ := begun(t, strings.Repeat("x", count), 2)
		for _, n := range []int{
			-1 << 63, -2000, -1, 0, 1, 2, 3, 4, 5, 1998, 1999, 2000, 2001, 2002, 2003, 2010, 2011, 2012, 1 << 31, 1<<63 - 1,
		} {
			for _, size := range []int{0, 1, 511, 512, 513, 1024, 5000} {
				want := api.OK
				switch {
				case n < 1, n > count+1:
					want = api.ErrRange
				case n > 2000:
					want = api.ErrFull
				case size != 512:
					want = api.ErrLong
				}
				what := fmt.Sprintf("page %d of %d, %d bytes", n, count, size)
				failsWith(t, what, p.Write(n, strings.Repeat("y", size)), want)
				written := want == api.OK
				if p.Changed() != written {
					t.Errorf("%s: Changed %v", what, p.Changed())
				}
				now := count
				if written {
					now = max(count, n)
				}
				if k, err := p.Pages(); k != now || err != api.OK {
					t.Errorf("%s: %d pages, error %d", what, k, err)
				}
				if c, _ := p.Read(n); (c == sheet('y')) != written {
					t.Errorf("%s: the page is %.1q", what, c)
				}
				all(t, p.Rollback(), p.Begin())
			}
		}
	}
}

// Promise 14.3: the last page that there can be.
func TestWriteLast(t *testing.T) {
	p, d := begun(t, strings.Repeat("x", 1999), 2)
	all(t, p.Write(2000, sheet('y')))
	failsWith(t, "page 2001", p.Write(2001, sheet('z')), api.ErrFull)
	failsWith(t, "page 2002", p.Write(2002, sheet('z')), api.ErrRange)
	all(t, p.Commit(), p.Begin(), p.Write(1, sheet('1')), p.Write(1000, sheet('2')), p.Write(2000, sheet('3')))
	failsWith(t, "page 2001", p.Write(2001, sheet('z')), api.ErrFull)
	all(t, p.Rollback())
	want := strings.Repeat("x", 1999) + "y"
	holds(t, "2000 pages", p, want)
	holds(t, "2000 pages, opened again", opened(t, d, 2), want)
}

// Promise 14.6: a journal cannot tell of more than 2000 pages, so that a
// greater file is not changed.
func TestWriteMore(t *testing.T) {
	want := strings.Repeat("x", 2001)
	p, d := begun(t, want, 2)
	all(t, p.Write(1, sheet('1')), p.Write(2000, sheet('2')))
	failsWith(t, "a third page", p.Write(3, sheet('3')), api.ErrRange)
	failsWith(t, "Commit", p.Commit(), api.ErrRange)
	holds(t, "before Rollback", p, "1"+strings.Repeat("x", 1998)+"2x")
	all(t, p.Rollback())
	holds(t, "after Rollback", p, want)
	if content, _ := d.Content("a"); content != of(want) {
		t.Error("the file has changed")
	}
}

// Promise 14.3: the chapter's example.
func TestExample(t *testing.T) {
	p, _ := begun(t, "", 2)
	all(t, p.Write(1, sheet('a')))
	k, err := p.Save()
	if k != 1 {
		t.Errorf("savepoint %d", k)
	}
	all(t, err, p.Write(1, sheet('b')), p.Back(1))
	holds(t, "page 1", p, "a")
}

// saves makes a savepoint, and requires its number.
func saves(t *testing.T, p *Pager, want int) {
	t.Helper()
	k, err := p.Save()
	all(t, err)
	if k != want {
		t.Errorf("savepoint %d, want %d", k, want)
	}
}

// Promise 14.3: savepoints within each other.
func TestSaves(t *testing.T) {
	for _, keep := range []int{2, 3, 100} {
		fresh := func() *Pager {
			p, _ := begun(t, "xyz", keep)
			write(t, p, "a")
			saves(t, p, 1) // ayz
			write(t, p, "bb.d")
			saves(t, p, 2) // bbzd
			write(t, p, "c.cce")
			saves(t, p, 3) // cbcce
			write(t, p, ".d...f")
			holds(t, "all of it", p, "cdccef")
			return p
		}
		for _, c := range []struct {
			what string
			do   func(p *Pager) []api.Errno
			left int
			want string
		}{
			{"nothing", func(p *Pager) []api.Errno { return nil }, 3, "cdccef"},
			{"Back to 3", func(p *Pager) []api.Errno { return []api.Errno{p.Back(3)} }, 3, "cbcce"},
			{"Back to 2", func(p *Pager) []api.Errno { return []api.Errno{p.Back(2)} }, 2, "bbzd"},
			{"Back to 1", func(p *Pager) []api.Errno { return []api.Errno{p.Back(1)} }, 1, "ayz"},
			{"Back to 3, 2 and 1", func(p *Pager) []api.Errno { return []api.Errno{p.Back(3), p.Back(2), p.Back(1)} }, 1, "ayz"},
			{"Back to 2 twice", func(p *Pager) []api.Errno { return []api.Errno{p.Back(2), p.Back(2)} }, 2, "bbzd"},
			{"Back to 2 twice, with a Write", func(p *Pager) []api.Errno {
				return []api.Errno{p.Back(2), p.Write(1, sheet('w')), p.Write(5, sheet('w')), p.Write(6, sheet('w')), p.Back(2)}
			}, 2, "bbzd"},
			{"Back to 2, and a Write", func(p *Pager) []api.Errno { return []api.Errno{p.Back(2), p.Write(5, sheet('w'))} }, 2, "bbzdw"},
			{"Drop of 3", func(p *Pager) []api.Errno { return []api.Errno{p.Drop(3)} }, 2, "cdccef"},
			{"Drop of 2", func(p *Pager) []api.Errno { return []api.Errno{p.Drop(2)} }, 1, "cdccef"},
			{"Drop of 1", func(p *Pager) []api.Errno { return []api.Errno{p.Drop(1)} }, 0, "cdccef"},
			{"Drop of 3, Back to 2", func(p *Pager) []api.Errno { return []api.Errno{p.Drop(3), p.Back(2)} }, 2, "bbzd"},
			{"Drop of 3, Back to 1", func(p *Pager) []api.Errno { return []api.Errno{p.Drop(3), p.Back(1)} }, 1, "ayz"},
			{"Drop of 2, Back to 1", func(p *Pager) []api.Errno { return []api.Errno{p.Drop(2), p.Back(1)} }, 1, "ayz"},
			{"Drop of 3 and 2, Back to 1", func(p *Pager) []api.Errno { return []api.Errno{p.Drop(3), p.Drop(2), p.Back(1)} }, 1, "ayz"},
			{"Back to 2, Drop of 2, Back to 1", func(p *Pager) []api.Errno { return []api.Errno{p.Back(2), p.Drop(2), p.Back(1)} }, 1, "ayz"},
			{"Drop of 2, Write, Back to 1", func(p *Pager) []api.Errno {
				return []api.Errno{p.Drop(2), p.Write(3, sheet('w')), p.Write(7, sheet('w')), p.Back(1)}
			}, 1, "ayz"},
			{"Drop of 2, Save, Write, Back to 2", func(p *Pager) []api.Errno {
				dropped := p.Drop(2)
				_, saved := p.Save()
				return []api.Errno{dropped, saved, p.Write(1, sheet('w')), p.Back(2)}
			}, 2, "cdccef"},
		} {
			what := fmt.Sprintf("%s, keep %d", c.what, keep)
			p := fresh()
			all(t, c.do(p)...)
			holds(t, what, p, c.want)
			for _, k := range []int{-1 << 63, -1, 0, c.left + 1, c.left + 2, 1<<63 - 1} {
				failsWith(t, what+", Back", p.Back(k), api.ErrRange)
				failsWith(t, what+", Drop", p.Drop(k), api.ErrRange)
			}
			holds(t, what, p, c.want)
			saves(t, p, c.left+1)
			all(t, p.Commit())
			holds(t, what+", after Commit", p, c.want)
		}
	}
}

// Promise 14.3: there is no savepoint when a transaction begins.
func TestSavesEnd(t *testing.T) {
	p, _ := begun(t, "x", 2)
	for _, end := range ends(p) {
		saves(t, p, 1)
		saves(t, p, 2)
		all(t, end(), p.Begin())
		failsWith(t, "Back", p.Back(1), api.ErrRange)
		failsWith(t, "Drop", p.Drop(1), api.ErrRange)
	}
	// There is no greatest number of savepoints.
	for k := range 100 {
		saves(t, p, k+1)
		all(t, p.Write(k%7+1, sheet(byte(k))))
	}
	all(t, p.Back(50))
	saves(t, p, 51)
	all(t, p.Back(1))
	holds(t, "the first of 51", p, "x")
}

// Promise 14.3: pages that were appended are gone after Back, also if they have
// been written to the file, and also after Commit.
func TestBackAppended(t *testing.T) {
	for _, keep := range []int{2, 4, 100} {
		for _, flush := range []bool{false, true} {
			p, d := begun(t, "xy", keep)
			saves(t, p, 1)
			write(t, p, "abcdefghijkl")
			if flush {
				all(t, p.Journal(), p.Flush())
			}
			all(t, p.Back(1))
			holds(t, "after Back", p, "xy")
			failsWith(t, "page 4", p.Write(4, sheet('z')), api.ErrRange)
			write(t, p, "..z")
			holds(t, "after another Write", p, "xyz")
			all(t, p.Commit())
			holds(t, "after Commit", p, "xyz")
			if content, _ := d.Content("a"); content != of("xyz") {
				t.Errorf("the file has pages %q", letters(content))
			}
			d.Restart(nil)
			holds(t, "opened again", opened(t, d, 2), "xyz")
		}
	}
}

// Promise 14.1: not too many pages are held after Back either.
func TestKeepBack(t *testing.T) {
	for _, keep := range []int{2, 3, 7} {
		p, d := begun(t, "uvwxyz", keep)
		write(t, p, "ABCDEFGH")
		saves(t, p, 1)
		write(t, p, "abcdefghijk")
		saves(t, p, 2)
		write(t, p, "111111")
		for _, k := range []int{2, 1} {
			all(t, p.Back(k))
			if n := ahead(t, p, d); n > keep {
				t.Errorf("keep %d, Back to %d: %d pages are held", keep, k, n)
			}
		}
		holds(t, "after Back", p, "ABCDEFGH")
		all(t, p.Commit())
		holds(t, "after Commit", p, "ABCDEFGH")
	}
}
