package pager

import (
	"fmt"
	"iter"
	"math/rand/v2"
	"slices"
	"strings"
	"testing"

	"annexe/api"
	"annexe/disk"
	"annexe/hot"
)

// play is a transaction, as calls of a pager of a that has some pages.
type play struct {
	what  string
	pages string
	keep  int
	l     []op
}

// writes returns the Writes of a byte to each of several pages.
func writes(s string) []op {
	var l []op
	for i := range len(s) {
		if s[i] != '.' {
			l = append(l, op{"Write", i + 1, sheet(s[i])})
		}
	}
	return l
}

func plays() []play {
	steps := []op{{call: "Journal"}, {call: "Flush"}, {call: "Finish"}}
	named := []op{{call: "Journal"}, {call: "Name", s: "boss"}, {call: "Flush"}, {call: "Finish"}}
	commit := []op{{call: "Commit"}}
	save, back := []op{{call: "Save"}}, []op{{call: "Back", n: 1}}
	return []play{
		{"all pages in memory", "xyz", 10, slices.Concat(writes("a.cd"), commit)},
		{"a new file", "", 10, slices.Concat(writes("abc"), commit)},
		{"pages written early", "xyz", 2, slices.Concat(writes("abcde"), writes("f.g"), steps)},
		{"new pages written early", "x", 2, slices.Concat(writes(".bcdef"), commit)},
		{"a super-journal", "xyz", 2, slices.Concat(writes("abcd"), named)},
		{"a super-journal, all pages in memory", "xyz", 10, slices.Concat(writes("abcd"), named)},
		{"Back in memory", "xyz", 10, slices.Concat(writes("a"), save, writes(".b.d"), back, writes("..c"), commit)},
		{"Back after pages were written", "xyz", 2, slices.Concat(writes("a"), save, writes("bbbbbb"), back, writes("..cd"), steps)},
		{"Back to what was", "xyz", 3, slices.Concat(save, writes("abcdef"), save, writes("ghi"), back, named)},
		{"steps twice", "xyz", 2, slices.Concat(writes("abcd"), steps[:2], writes("ef..g"), steps)},
		{"Back after Flush", "xyz", 2, slices.Concat(writes("a"), save, writes("bcde"), steps[:2], back, steps)},
		{"Flush before Name", "xyz", 2, slices.Concat(writes("abcd"), steps[:2], named[1:2], steps[2:])},
	}
}

// end returns which pages there are after an undisturbed play.
func (s play) end() string {
	m := &model{now: s.pages}
	for _, o := range append([]op{{call: "Begin"}}, s.l...) {
		o.of(m)
	}
	return m.now
}

// stopped is a play that has stopped at a call that failed.
type stopped struct {
	p  *Pager
	d  *disk.Disk
	at int // the number of the call
	m  *model
}

// commits reports whether the call may have committed the transaction.
func (s play) commits(at int) bool { return s.l[at].call == "Finish" || s.l[at].call == "Commit" }

// until makes the calls of a play up to the one that fails: there must be one.
// prepare is given the disk when the transaction begins.
func (s play) until(t *testing.T, prepare func(d *disk.Disk)) *stopped {
	t.Helper()
	p, d := begun(t, s.pages, s.keep)
	m := &model{now: s.pages}
	op{call: "Begin"}.of(m)
	prepare(d)
	for i, o := range s.l {
		if _, err := o.perform(p); err != api.OK {
			return &stopped{p, d, i, m}
		}
		o.of(m)
	}
	t.Fatalf("%s: no call fails", s.what)
	return nil
}

// done makes all calls of a play, and returns how many disk calls there were.
func (s play) done(t *testing.T) (*Pager, *disk.Disk, int) {
	t.Helper()
	p, d := begun(t, s.pages, s.keep)
	ops := d.Ops()
	for _, o := range s.l {
		_, err := o.perform(p)
		all(t, err)
	}
	return p, d, d.Ops() - ops
}

// calls returns the numbers of the disk calls of a play.
func (s play) calls(t *testing.T) iter.Seq[int] {
	t.Helper()
	_, _, count := s.done(t)
	return func(yield func(int) bool) {
		for n := 1; n <= count && yield(n); n++ {
		}
	}
}

// fault lets the n-th call of the disk fail, and those behind it, too.
func fault(n, count int, code api.Errno) func(d *disk.Disk) {
	return func(d *disk.Disk) {
		var l []disk.Fault
		for i := range count {
			l = append(l, disk.Fault{At: d.Ops() + n + i, Err: code})
		}
		d.Faults(l)
	}
}

// restored requires that a pager has the pages as they were at Begin, or, if
// the play was in its last call, as they were written; and that they are durable.
func (s play) restored(t *testing.T, what string, c *stopped) {
	t.Helper()
	got := read(t, c.p)
	if got != s.pages && (!s.commits(c.at) || got != c.m.now) {
		t.Errorf("%s: pages %q, want %q or, in the end, %q", what, got, s.pages, s.end())
	}
	has(t, what, c.d, got)
	if n := state(t, c.d); n != hot.Clean {
		t.Errorf("%s: state %d", what, n)
	}
	all(t, c.p.Begin(), c.p.Write(1, sheet('1')), c.p.Commit())
	has(t, what+", and then", c.d, "1"+got[min(1, len(got)):])
}

// Promise 14.6: each disk call fails in turn, with each error. The call returns
// it and has changed nothing; then, there is a Rollback or a Lose.
func TestFails(t *testing.T) {
	for _, s := range plays() {
		for _, code := range anyErrors() {
			for n := range s.calls(t) {
				for _, lose := range []bool{false, true} {
					c := s.until(t, fault(n, 1, code))
					what := fmt.Sprintf("%s, error %d at call %d, lose %v", s.what, code, n, lose)
					c.d.Faults(nil)
					if !c.p.Active() || c.p.Changed() != c.m.changed {
						t.Errorf("%s: Active %v, Changed %v", what, c.p.Active(), c.p.Changed())
					}
					holds(t, what, c.p, c.m.now)
					if lose {
						c.p.Lose()
					} else {
						all(t, c.p.Rollback())
					}
					s.restored(t, what, c)
				}
			}
		}
	}
}

// Promise 14.6: the error of the disk is the one that is returned.
func TestFailsWith(t *testing.T) {
	for _, s := range plays() {
		for n := range s.calls(t) {
			c := s.until(t, fault(n, 1, faultCode))
			ops := c.d.Ops()
			fault(1, 1, faultCode-1)(c.d)
			_, err := s.l[c.at].perform(c.p)
			what := fmt.Sprintf("%s, call %d, again", s.what, n)
			failsWith(t, what, err, faultCode-1)
			if c.d.Ops() != ops+1 {
				t.Errorf("%s: it goes on after an error", what)
			}
		}
	}
}

// Promise 14.6: what has failed can be called again, and the transaction goes on.
func TestFailsAndGoesOn(t *testing.T) {
	for _, s := range plays() {
		for count := 1; count <= 3; count++ {
			for n := range s.calls(t) {
				c := s.until(t, fault(n, count, api.ErrIO))
				what := fmt.Sprintf("%s, %d errors from call %d on", s.what, count, n)
				_, err := s.l[c.at].perform(c.p)
				for again := 0; err != api.OK && again < 3; again++ {
					failsWith(t, what, err, api.ErrIO)
					_, err = s.l[c.at].perform(c.p)
				}
				all(t, err)
				for _, o := range s.l[c.at+1:] {
					_, err := o.perform(c.p)
					all(t, err)
				}
				holds(t, what, c.p, s.end())
				has(t, what, c.d, s.end())
				if n := state(t, c.d); n != hot.Clean {
					t.Errorf("%s: state %d", what, n)
				}
			}
		}
	}
}

// Promise 14.6: a transaction goes on with other calls after one that failed,
// also after a Finish.
func TestFailsAndChanges(t *testing.T) {
	for _, s := range plays() {
		for n := range s.calls(t) {
			for _, end := range []string{"Commit", "Rollback", "crash"} {
				c := s.until(t, fault(n, 1, api.ErrIO))
				what := fmt.Sprintf("%s, an error at call %d, then %s", s.what, n, end)
				c.d.Faults(nil)
				if c.m.named {
					continue
				}
				want := c.m.now
				for i := range min(len(want), 4) {
					all(t, c.p.Write(i+1, sheet('w')))
				}
				want = strings.Repeat("w", min(len(want), 4)) + want[min(len(want), 4):]
				holds(t, what, c.p, want)
				switch end {
				case "Commit":
					all(t, c.p.Commit())
					has(t, what, c.d, want)
				case "Rollback":
					all(t, c.p.Rollback())
					s.restored(t, what, c)
				case "crash":
					c.d.Restart(nil)
					c.p = opened(t, c.d, 2)
					s.restored(t, what, c)
				}
			}
		}
	}
}

// Promise 14.6: disk calls fail, and then also such of the Rollback and of what
// follows.
func TestFailsAgain(t *testing.T) {
	for _, s := range plays() {
		for n := range s.calls(t) {
			for m := 0; m < 14; m++ {
				for _, count := range []int{1, 5} {
					for _, lose := range []bool{false, true} {
						c := s.until(t, fault(n, 1+m, api.ErrIO))
						if lose {
							c.p.Lose()
						} else {
							c.p.Rollback()
						}
						fault(m%7+1, count, api.ErrQuota)(c.d)
						c.p.Pages()
						c.p.Read(1)
						c.d.Faults(nil)
						s.restored(t, fmt.Sprintf("%s, %d errors from call %d on, lose %v", s.what, 1+m, n, lose), c)
					}
				}
			}
		}
	}
}

// Promise 14.6: a trailer of a Name that failed does not count, even if its
// super-journal does not exist, and even if it cannot be removed at once.
func TestNameFails(t *testing.T) {
	for n := 1; n <= 3; n++ {
		for count := 1; count <= 6; count++ {
			for _, end := range []string{"Rollback", "Lose", "Commit", "Name"} {
				p, d := begun(t, "xyz", 2)
				write(t, p, "abcd")
				all(t, p.Journal())
				fault(n, count, api.ErrIO)(d)
				if err := p.Name("gone"); err == api.OK {
					break
				}
				what := fmt.Sprintf("%d errors from call %d on, %s", count, n, end)
				want := "xyz"
				switch end {
				case "Rollback":
					p.Rollback()
				case "Lose":
					p.Lose()
					p.Pages()
				case "Commit":
					for p.Active() {
						p.Commit()
					}
					want = "abcd"
				case "Name":
					for p.Name("boss") != api.ErrState {
					}
					if j := journalOf(t, what, d); j.Super != "boss" {
						t.Errorf("%s: the journal names %q", what, j.Super)
					}
					all(t, p.Flush(), p.Rollback())
				}
				d.Faults(nil)
				holds(t, what, p, want)
				has(t, what, d, want)
			}
		}
	}
}

// Promise 14.6: nor does it count after a crash, as soon as the file is written.
func TestNameFailsAndCrashes(t *testing.T) {
	for _, k := range [][]int{nil, {1}, {1, 0, 1, 1}, {1, 1, 1}, {0, 1}} {
		p, d := begun(t, "xyz", 10)
		write(t, p, "abcd")
		all(t, p.Journal())
		fault(2, 1, api.ErrIO)(d)
		failsWith(t, "Name", p.Name("gone"), api.ErrIO)
		all(t, p.Flush())
		d.Restart(k)
		holds(t, fmt.Sprint("choices ", k), opened(t, d, 2), "xyz")
	}
}

// Promises 14.5 and 14.6: it is no obstacle if somebody else has restored the file.
func TestNameFailsElsewhere(t *testing.T) {
	p, d := begun(t, "xyz", 2)
	write(t, p, "abcd")
	all(t, p.Journal())
	fault(2, 1, api.ErrIO)(d)
	failsWith(t, "Name", p.Name("boss"), api.ErrIO)
	holds(t, "another pager", opened(t, d, 2), "xyz")
	all(t, p.Rollback())
	holds(t, "after Rollback", p, "xyz")
}

// Promises 14.4 and 14.6: a Back that fails changes nothing, so that what has
// been flushed still is, and can be finished.
func TestBackFails(t *testing.T) {
	for n := 1; ; n++ {
		p, d := begun(t, "xyz", 2)
		write(t, p, "ab")
		saves(t, p, 1)
		write(t, p, "cdefg")
		all(t, p.Journal(), p.Flush())
		fault(n, 1, api.ErrIO)(d)
		if err := p.Back(1); err == api.OK {
			break
		}
		what := fmt.Sprintf("an error at call %d", n)
		holds(t, what, p, "cdefg")
		if n%2 == 0 {
			all(t, p.Name("boss"))
		}
		all(t, p.Finish())
		holds(t, what, p, "cdefg")
		has(t, what, d, "cdefg")
	}
}

// Promise 14.4: after a Finish that failed, all that can be performed in a
// transaction still can be.
func TestFinishFails(t *testing.T) {
	fresh := func() (*Pager, *disk.Disk) {
		p, d := begun(t, "xyz", 2)
		saves(t, p, 1)
		write(t, p, "abcd")
		all(t, p.Journal(), p.Flush())
		fault(2, 1, api.ErrIO)(d)
		failsWith(t, "Finish", p.Finish(), api.ErrIO)
		holds(t, "Finish", p, "abcd")
		return p, d
	}
	p, d := fresh()
	all(t, p.Finish())
	has(t, "another Finish", d, "abcd")

	p, d = fresh()
	all(t, p.Name("boss"))
	if j := journalOf(t, "Name", d); j.Super != "boss" || j.Parts == 0 {
		t.Errorf("the journal names %q, %d segments", j.Super, j.Parts)
	}
	all(t, p.Flush(), p.Finish())
	has(t, "Name", d, "abcd")

	p, d = fresh()
	all(t, p.Back(1))
	holds(t, "Back", p, "xyz")
	failsWith(t, "Finish after Back", p.Finish(), api.ErrState)
	all(t, p.Journal(), p.Flush(), p.Finish())
	has(t, "Back", d, "xyz")

	p, d = fresh()
	write(t, p, "efghij")
	all(t, p.Rollback())
	holds(t, "Write and Rollback", p, "abcd")
	has(t, "Write and Rollback", d, "abcd")
}

// Promises 14.4 and 14.6: there is no room for the journal or the pages.
func TestQuota(t *testing.T) {
	for room := 1536; room < 12000; room += 100 {
		for _, keep := range []int{2, 10} {
			d := disk.New(room)
			all(t, d.Create("a"), d.Write("a", 0, of("xyz")), d.Sync("a"))
			p := opened(t, d, keep)
			all(t, p.Begin())
			want := "xyz"
			for i, c := range "abcdef" {
				err := p.Write(i+1, sheet(byte(c)))
				if err == api.ErrQuota {
					break
				}
				all(t, err)
				want = want[:i] + string(c) + want[min(i+1, len(want)):]
			}
			what := fmt.Sprintf("a capacity of %d bytes, keep %d", room, keep)
			holds(t, what, p, want)
			switch err := p.Commit(); err {
			case api.OK:
				has(t, what, d, want)
			case api.ErrQuota:
				holds(t, what, p, want)
				all(t, p.Rollback())
				holds(t, what, p, "xyz")
				has(t, what, d, "xyz")
			default:
				t.Errorf("%s: error %d", what, err)
			}
		}
	}
	p, d := begun(t, "xyz", 2)
	for i := range api.MaxFiles - 2 {
		all(t, d.Create(fmt.Sprint("f", i)))
	}
	all(t, p.Write(1, sheet('a')))
	failsWith(t, "60 files", p.Journal(), api.ErrFull)
	failsWith(t, "60 files", p.Commit(), api.ErrFull)
	all(t, d.Delete("f7"), p.Commit())
	holds(t, "59 files", p, "ayz")
}

// choices returns ways in which changes survive.
func choices(r *rand.Rand) [][]int {
	every := func(c int) []int { return slices.Repeat([]int{c}, 60) }
	l := [][]int{
		nil, every(1), every(2 + 3*8), every(2 + 3*31), every(2 + 3*100), every(2 + 3*511), every(2 + 3*519), every(-1),
		{0, 1}, {1, 0, 1, 0, 1, 0, 1}, {0, 1, 0, 1, 0, 1, 0, 1}, {0, 0, 1, 1, 1, 1, 1}, {1, 1, 0, 0, 0, 1, 1, 1},
	}
	for range 8 {
		l = append(l, someChoices(r))
	}
	return l
}

// crash lets the machine crash at its n-th call.
func crash(n int) func(d *disk.Disk) {
	return func(d *disk.Disk) { d.CrashAt(d.Ops() + n) }
}

// Promise 14.6: the machine crashes at each disk call in turn, whatever
// survives, and the file is opened again; or the same pager goes on.
func TestCrashes(t *testing.T) {
	r := rand.New(rand.NewPCG(14, 2))
	for _, s := range plays() {
		for n := range s.calls(t) {
			for i, k := range choices(r) {
				c := s.until(t, crash(n))
				what := fmt.Sprintf("%s, a crash at call %d, choices %d", s.what, n, i)
				if !c.d.Down() {
					t.Errorf("%s: the machine is up", what)
				}
				c.d.Restart(k)
				switch i % 3 {
				case 0:
					all(t, c.p.Rollback())
				case 1:
					c.p.Lose()
				case 2:
					c.p = opened(t, c.d, 2)
				}
				s.restored(t, what, c)
			}
		}
	}
}

// Promise 14.6: with further crashes while the file is opened.
func TestCrashesTwice(t *testing.T) {
	r := rand.New(rand.NewPCG(14, 3))
	for _, s := range plays() {
		for n := range s.calls(t) {
			for m := 1; m <= 12; m++ {
				for range 4 {
					l := choices(r)
					c := s.until(t, crash(n))
					c.d.Restart(l[r.IntN(len(l))])
					crash(m)(c.d)
					if _, err := Open(c.d, "a", 2); err != api.OK {
						failsWith(t, s.what, err, api.ErrCrash)
					}
					c.d.Restart(l[r.IntN(len(l))])
					c.p = opened(t, c.d, 2)
					s.restored(t, fmt.Sprintf("%s, a crash at call %d, and one at call %d", s.what, n, m), c)
				}
			}
		}
	}
}

// Promise 14.6: a crash behind a call that failed.
func TestFailsAndCrashes(t *testing.T) {
	r := rand.New(rand.NewPCG(14, 4))
	for _, s := range plays() {
		for n := range s.calls(t) {
			for m := 1; m <= 10; m++ {
				l := choices(r)
				for again := range 6 {
					c := s.until(t, fault(n, 1, api.ErrIO))
					c.d.Faults(nil)
					crash(m)(c.d)
					for _, o := range s.l[c.at:] {
						_, err := o.perform(c.p)
						c.m = &model{now: s.end()}
						if err != api.OK {
							break
						}
						c.at++
					}
					c.at = min(c.at, len(s.l)-1)
					c.d.Restart(l[r.IntN(len(l))])
					c.p = opened(t, c.d, 2)
					s.restored(t, fmt.Sprintf("%s, an error at call %d, a crash %d calls later, %d", s.what, n, m, again), c)
				}
			}
		}
	}
}

// Promise 14.6: a transaction that is complete stays, whatever becomes of the
// next one.
func TestCrashesNext(t *testing.T) {
	r := rand.New(rand.NewPCG(14, 5))
	for _, s := range plays() {
		for n, down := 1, true; down; n++ {
			for _, k := range choices(r) {
				p, d, _ := s.done(t)
				all(t, p.Begin())
				crash(n)(d)
				for i := range len(s.end()) {
					p.Write(i+1, sheet('n'))
				}
				p.Journal()
				p.Flush()
				down = d.Down()
				d.Restart(k)
				holds(t, fmt.Sprintf("%s, a crash in the next one at call %d", s.what, n), opened(t, d, 2), s.end())
			}
		}
	}
}

// Promise 14.6: the deletion of the super-journal commits the transaction.
func TestCrashesSuper(t *testing.T) {
	r := rand.New(rand.NewPCG(14, 6))
	for n, down := 1, true; down; n++ {
		for i, k := range choices(r) {
			p, d := begun(t, "xyz", 2)
			write(t, p, "abcd")
			all(t, p.Journal(), p.Name("boss"), p.Flush())
			crash(n)(d)
			d.Delete("boss")
			committed := d.DirSync() == api.OK
			p.Finish()
			down = d.Down()
			d.Restart(k)
			_, there := d.Size("boss")
			want := "abcd"
			if _, journal := d.Size("a-j"); journal && there {
				want = "xyz"
			}
			if committed && want != "abcd" {
				t.Errorf("a crash at call %d, choices %d: the super-journal is there", n, i)
			}
			p = opened(t, d, 2)
			what := fmt.Sprintf("a crash at call %d, choices %d", n, i)
			holds(t, what, p, want)
			has(t, what, d, want)
		}
	}
}
