package chain

import (
	"fmt"
	"strings"
	"testing"

	"annexe/api"
	"annexe/disk"
	"annexe/pager"
)

// faultCode is an error that only a fault gives.
const faultCode = api.Errno(77)

// calls are calls of all kinds, all of which succeed on the pages of scene.
func calls() []call {
	return []call{
		format(), root(), setRoot(9), alloc(), free(3), free(14), allFrees(),
		put(1), put(508), put(509), put(3000), put(6000), get(2, 1524), pagesOf(2, 1524), drop(2, 1524), drop(9, 2540),
	}
}

// scene is a file with a chain of three pages, six free ones, and a chain of five.
func scene() []string {
	return []string{
		firstPage(4, 6, 7), page(13, text(508)), page(0, text(508)), page(5, ""), page(6, ""), page(7, ""), page(8, ""), page(12, ""),
		page(10, text(508)), page(11, text(508)), page(14, text(508)), page(0, ""), page(3, text(508)), page(15, text(508)), page(0, text(508)),
	}
}

// expected returns what a call returns, and what it makes of the scene.
func expected(t *testing.T, c call) (result, []string) {
	t.Helper()
	p := opened(t, scene()...)
	r, err := c.do(p)
	if err != api.OK {
		t.Fatalf("%s: error %d", c.what, err)
	}
	return r, contents(t, p)
}

// ways are states of a transaction in which a call is made, by what is done
// before it.
func ways() []func(p *pager.Pager) []api.Errno {
	save := func(p *pager.Pager) api.Errno { _, err := p.Save(); return err }
	return []func(p *pager.Pager) []api.Errno{
		func(p *pager.Pager) []api.Errno { return nil },
		func(p *pager.Pager) []api.Errno { return []api.Errno{save(p)} },
		func(p *pager.Pager) []api.Errno {
			return []api.Errno{p.Write(1, scene()[0]), p.Write(15, scene()[14]), save(p), p.Write(16, zeros), p.Back(1)}
		},
		func(p *pager.Pager) []api.Errno {
			var l []api.Errno
			for i, s := range scene() {
				l = append(l, p.Write(i+1, s))
			}
			return append(l, p.Journal(), p.Flush())
		},
	}
}

// disturbed makes a call with a fault at its at-th disk call, and reports
// whether it has come to that.
func disturbed(p *pager.Pager, d *disk.Disk, c call, at int) (result, api.Errno, bool) {
	d.Faults([]disk.Fault{{At: d.Ops() + at, Err: faultCode}})
	ops := d.Ops()
	r, err := c.do(p)
	d.Faults(nil)
	return r, err, d.Ops() >= ops+at
}

// Promises 15.1 to 15.3: each disk call of each function fails in turn. The
// error is returned as it is, nothing has changed, and the call can be repeated.
func TestFaults(t *testing.T) {
	failed := map[string]int{}
	for _, c := range calls() {
		want, after := expected(t, c)
		for way, prepare := range ways() {
			for at := 1; ; at++ {
				what := fmt.Sprintf("%s, way %d, disk call %d", c.what, way, at)
				p, d := openedOn(t, 2, scene()...)
				all(t, p.Begin())
				all(t, prepare(p)...)
				saves := countSaves(t, p)
				r, err, reached := disturbed(p, d, c, at)
				if !reached {
					break
				}
				failed[c.what]++
				failsWith(t, what, err, faultCode)
				if !r.empty() {
					t.Errorf("%s: result %v", what, r)
				}
				has(t, what, p, scene()...)
				if n := countSaves(t, p); n != saves {
					t.Errorf("%s: %d savepoints, want %d", what, n, saves)
				}
				succeeds(t, p, c, want)
				has(t, what+", repeated", p, after...)
				all(t, p.Commit())
				has(t, what+", committed", p, after...)
			}
		}
	}
	for _, c := range calls() {
		if failed[c.what] == 0 {
			t.Errorf("%s: never failed", c.what)
		}
	}
}

// countSaves returns how many savepoints there are.
func countSaves(t *testing.T, p *pager.Pager) int {
	t.Helper()
	n, err := p.Save()
	all(t, err, p.Drop(n))
	return n - 1
}

// Promises 15.1 to 15.3: every disk call fails from one on. What is returned is
// such an error. The pager may be unable to go back while that lasts; then the
// pages are restored by a Back to the caller's savepoint, and by a Rollback.
func TestFaultsGoOn(t *testing.T) {
	for _, c := range calls() {
		for _, prepare := range ways() {
			for at := 1; ; at++ {
				p, d := openedOn(t, 2, scene()...)
				all(t, p.Begin())
				all(t, prepare(p)...)
				saves := countSaves(t, p)
				var l []disk.Fault
				for i := range 500 {
					l = append(l, disk.Fault{At: d.Ops() + at + i, Err: faultCode})
				}
				d.Faults(l)
				ops := d.Ops()
				r, err := c.do(p)
				d.Faults(nil)
				if d.Ops() < ops+at {
					break
				}
				failsWith(t, c.what, errFor(t, r, err), faultCode)
				if n := countSaves(t, p); n != saves {
					t.Errorf("%s: %d savepoints, want %d", c.what, n, saves)
				}
				if saves > 0 {
					all(t, p.Back(1))
					has(t, c.what+", after Back", p, scene()...)
				}
				all(t, p.Rollback())
				has(t, c.what+", after Rollback", p, scene()...)
			}
		}
	}
}

// Promise 15.4: the machine crashes at each disk call. The file has the pages
// of the last Commit.
func TestCrashes(t *testing.T) {
	for _, c := range calls() {
		for at := 1; ; at++ {
			for choice := range 3 {
				p, d := openedOn(t, 2, scene()...)
				all(t, p.Begin())
				d.CrashAt(d.Ops() + at)
				r, err := c.do(p)
				if !d.Down() {
					at = -1
					break
				}
				failsWith(t, c.what, errFor(t, r, err), api.ErrCrash)
				d.Restart([]int{choice, choice + 3*100, choice, choice + 3*300, choice, choice, choice, choice})
				p, err = pager.Open(d, "a", 2)
				all(t, err)
				has(t, c.what, p, scene()...)
			}
			if at < 0 {
				break
			}
		}
	}
}

// A call that fails changes nothing: what has been performed on the way to a
// Commit still is, and there are no more and no fewer savepoints.
func TestProgress(t *testing.T) {
	l := make([]string, 1999)
	for i := range l {
		l[i] = page(0, "x")
	}
	l[0] = firstPage(0, 0, 7)
	p := opened(t, l...)
	all(t, p.Write(2, page(2, "y")))
	if n, err := p.Save(); n != 1 || err != api.OK {
		t.Errorf("savepoint %d, error %d", n, err)
	}
	all(t, p.Journal())
	for _, c := range []call{format(), setRoot(-1), free(0), free(1), free(2000), put(509), put(0), put(2000000), drop(2, 1), drop(2, 509), drop(5, 509), drop(5, 0), allFrees(), get(3, 1)} {
		c.do(p)
	}
	all(t, p.Flush())
	fails(t, p, put(509), api.ErrFull)
	if n := countSaves(t, p); n != 1 {
		t.Errorf("%d savepoints", n)
	}
	all(t, p.Finish())
}

// A call whose first Write fails changes nothing on the way to a Commit either.
func TestProgressFaults(t *testing.T) {
	want := []string{firstPage(0, 0, 7), page(0, "x"), page(0, "y")}
	failed := 0
	for at := 1; ; at++ {
		p, d := openedOn(t, 2, firstPage(0, 0, 7), zeros, zeros)
		all(t, p.Begin(), p.Write(2, want[1]), p.Write(3, want[2]), p.Journal())
		r, err, reached := disturbed(p, d, alloc(), at)
		if !reached {
			break
		}
		failed++
		failsWith(t, "Alloc", errFor(t, r, err), faultCode)
		all(t, p.Flush(), p.Finish())
		has(t, "after Finish", p, want...)
	}
	if failed < 2 {
		t.Errorf("%d disk calls", failed)
	}
}

// Promise 15.3: there is no room on the disk for what is appended.
func TestQuota(t *testing.T) {
	d := disk.New(12 * api.PageSize)
	p, err := pager.Open(d, "a", 2)
	all(t, err, p.Begin(), Format(p))
	all(t, SetRoot(p, 7), p.Commit(), p.Begin())
	fails(t, p, put(20*508), api.ErrQuota)
	has(t, "no room", p, firstPage(0, 0, 7))
	succeeds(t, p, put(3*508), result{n: 4})
	all(t, p.Commit())
	succeeds(t, p, get(4, 3*508), result{s: text(3 * 508)})
}

// Promises 15.1 to 15.3: the pager is lost, and cannot be restored at first.
func TestLost(t *testing.T) {
	for _, c := range append(calls(), setRoot(-1), free(0), alloc(), get(0, 1), get(1, 5000), drop(-1, 1)) {
		p, d := openedOn(t, 2, scene()...)
		p.Lose()
		r, err, reached := disturbed(p, d, c, 1)
		if failsWith(t, c.what, errFor(t, r, err), faultCode); !reached {
			t.Errorf("%s: no disk call", c.what)
		}
		has(t, c.what, p, scene()...)
	}
}

// Promise 15.1: a page that cannot be read, or has been cut off.
func TestUnreadable(t *testing.T) {
	p, d := openedOn(t, 2, scene()...)
	all(t, d.Truncate("a", 300))
	for _, c := range append(calls(), setRoot(-1), free(0)) {
		fails(t, p, c, api.ErrCorrupt)
	}
	p, d = openedOn(t, 2, strings.Join(scene(), ""))
	all(t, d.Delete("a"))
	for _, c := range calls() {
		fails(t, p, c, api.ErrNone)
	}
}
