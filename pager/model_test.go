package pager

import (
	"fmt"
	"math/rand/v2"
	"slices"
	"strings"
	"testing"

	"annexe/api"
	"annexe/disk"
)

// model is a pager by the words of the chapter. A page is a byte.
type model struct {
	now                       string
	active, changed           bool
	saves                     []string
	journaled, flushed, named bool
	gone                      bool     // the super-journal that is named does not exist
	bases                     []string // what Rollback may restore
	unsure                    bool     // now is one of the bases
	vague                     bool     // a Commit has failed, nobody knows where
	loose                     bool     // the file may have pages that are not durable
	risky                     bool     // a Name of what does not exist has failed: a crash may perform it
}

// op is a call: n is a page or a savepoint, and s the data or a path.
type op struct {
	call string
	n    int
	s    string
}

func (o op) String() string { return fmt.Sprintf("%s %d %.9q", o.call, o.n, o.s) }

// perform makes a call to a pager.
func (o op) perform(p *Pager) (int, api.Errno) {
	switch o.call {
	case "Begin":
		return 0, p.Begin()
	case "Write":
		return 0, p.Write(o.n, o.s)
	case "Save":
		return p.Save()
	case "Back":
		return 0, p.Back(o.n)
	case "Drop":
		return 0, p.Drop(o.n)
	case "Journal":
		return 0, p.Journal()
	case "Name":
		return 0, p.Name(o.s)
	case "Flush":
		return 0, p.Flush()
	case "Finish":
		return 0, p.Finish()
	case "Commit":
		return 0, p.Commit()
	case "Rollback":
		return 0, p.Rollback()
	}
	p.Lose()
	return 0, api.OK
}

// perform returns what the chapter says of a call.
func (o op) of(m *model) (int, api.Errno) {
	if o.call == "Lose" {
		m.end()
		return 0, api.OK
	}
	if m.active == (o.call == "Begin") {
		return 0, api.ErrState
	}
	switch o.call {
	case "Begin":
		*m = model{now: m.now, active: true, bases: m.bases, unsure: m.unsure, loose: m.loose}
		if !m.unsure {
			m.bases = []string{m.now}
		}
	case "Write":
		return 0, m.write(o.n, o.s)
	case "Save":
		m.saves = append(m.saves, m.now)
		return len(m.saves), api.OK
	case "Back", "Drop":
		return 0, m.back(o.n, o.call == "Drop")
	case "Rollback":
		m.end()
	default:
		return 0, m.commit(o)
	}
	return 0, api.OK
}

func (m *model) write(n int, data string) api.Errno {
	switch {
	case m.named:
		return api.ErrState
	case n < 1 || n > len(m.now)+1:
		return api.ErrRange
	case n > api.MaxPages:
		return api.ErrFull
	case len(data) != api.PageSize:
		return api.ErrLong
	}
	b := []byte(m.now + " ")[:max(n, len(m.now))]
	b[n-1] = data[0]
	m.now, m.changed = string(b), true
	m.journaled, m.flushed, m.vague = false, false, false
	return api.OK
}

func (m *model) back(k int, drop bool) api.Errno {
	if m.named && !drop {
		return api.ErrState
	}
	if k < 1 || k > len(m.saves) {
		return api.ErrRange
	}
	if drop {
		m.saves = m.saves[:k-1]
		return api.OK
	}
	m.now, m.saves = m.saves[k-1], m.saves[:k]
	m.journaled, m.flushed, m.vague = false, false, false
	return api.OK
}

func (m *model) commit(o op) api.Errno {
	ends := o.call == "Finish" || o.call == "Commit"
	if !m.changed {
		if ends {
			*m = model{now: m.now, loose: m.loose}
		}
		return api.OK
	}
	switch {
	case m.named && (o.call == "Journal" || o.call == "Name" || o.call == "Commit"),
		!m.journaled && (o.call == "Name" || o.call == "Flush"),
		!m.flushed && o.call == "Finish":
		return api.ErrState
	case o.call == "Name" && (o.s == "" || len(o.s) > api.MaxPath):
		return api.ErrName
	}
	switch o.call {
	case "Journal":
		m.journaled = true
	case "Name":
		m.named, m.gone = true, o.s != "boss"
	case "Flush":
		m.flushed = true
	default:
		*m = model{now: m.now}
	}
	return api.OK
}

// end ends a transaction by Rollback or Lose. What the chapter does not tell is
// what a file has that was not flushed, if its journal does not count.
func (m *model) end() {
	if !m.active {
		return
	}
	if m.gone && m.flushed {
		m.bases = append(m.bases, m.now)
	} else if m.gone {
		m.bases, m.loose = nil, true
	}
	*m = model{now: m.now, bases: m.bases, unsure: true, loose: m.loose, risky: m.risky}
}

// crashed is the end of a machine.
func (m *model) crashed() {
	m.end()
	m.loose = m.loose || m.risky
	if m.loose {
		m.bases, m.unsure = nil, true
	}
}

// agrees requires that a pager is what the model says.
func (m *model) agrees(t *testing.T, what string, p *Pager) {
	t.Helper()
	if p.Active() != m.active || p.Changed() != m.changed {
		t.Errorf("%s: Active %v, Changed %v, want %v, %v", what, p.Active(), p.Changed(), m.active, m.changed)
	}
	got := read(t, p)
	if m.unsure && (m.bases == nil || slices.Contains(m.bases, got)) {
		m.now, m.bases, m.unsure, m.risky = got, []string{got}, false, false
	}
	if got != m.now || m.unsure {
		t.Errorf("%s: pages %q, want %q, %q", what, got, m.now, m.bases)
	}
}

// Promises 14.2 to 14.5: all sequences of calls against the model, in a
// transaction in which nothing, something or much has been done.
func TestSequences(t *testing.T) {
	alphabet := []op{
		{"Write", 1, sheet('A')}, {"Write", 5, sheet('E')}, {call: "Save"}, {call: "Back", n: 1}, {call: "Drop", n: 1},
		{call: "Journal"}, {call: "Name", s: "boss"}, {call: "Name", s: "gone"}, {call: "Name"}, {call: "Flush"}, {call: "Finish"}, {call: "Commit"},
		{call: "Rollback"}, {call: "Lose"}, {call: "Begin"},
	}
	small := []op{{call: "Begin"}, {call: "Save"}, {"Write", 2, sheet('b')}}
	great := append(slices.Clone(small), op{"Write", 1, sheet('a')}, op{"Write", 4, sheet('d')}, op{call: "Save"}, op{"Write", 2, sheet('c')})
	for _, start := range [][]op{{{call: "Begin"}}, small, great} {
		var all func(l []op, left int)
		all = func(l []op, left int) {
			if left > 0 {
				for _, o := range alphabet {
					all(append(slices.Clone(l), o), left-1)
				}
				return
			}
			runs(t, l)
			if t.Failed() {
				t.FailNow()
			}
		}
		all(start, 4)
	}
}

// runs makes calls to a pager and to a model. Whether pages are read in between
// does not matter.
func runs(t *testing.T, l []op) {
	t.Helper()
	d := made(t, files{"a": of("xyz"), "boss": ""})
	p := opened(t, d, 2)
	m := &model{now: "xyz"}
	for i, o := range l {
		n, err := o.perform(p)
		want, bad := o.of(m)
		if n != want || err != bad {
			t.Errorf("%v, call %d: %d, error %d, want %d, error %d", l, i+1, n, err, want, bad)
		}
		if i == len(l)-1 || m.unsure {
			m.agrees(t, fmt.Sprint(l), p)
		}
	}
}

// anyOp returns a call. Most often, it is one that makes sense.
func anyOp(r *rand.Rand, m *model) op {
	if !m.active && r.IntN(4) > 0 {
		return op{call: "Begin"}
	}
	if m.vague && r.IntN(3) > 0 {
		return op{call: "Commit"}
	}
	if m.vague || r.IntN(3) > 0 {
		return op{"Write", 1 + r.IntN(min(len(m.now)+1, 14)), sheet(byte('a' + r.IntN(26)))}
	}
	switch r.IntN(16) {
	case 0:
		return op{"Write", []int{-1, 0, len(m.now) + 2, 2001}[r.IntN(4)], sheet('w')}
	case 1:
		return op{"Write", 1, strings.Repeat("w", []int{0, 511, 513}[r.IntN(3)])}
	case 2, 3:
		return op{call: "Save"}
	case 4, 5:
		return op{call: "Back", n: r.IntN(len(m.saves) + 2)}
	case 6:
		return op{call: "Drop", n: r.IntN(len(m.saves) + 2)}
	case 7, 8:
		return op{call: "Journal"}
	case 9:
		return op{call: "Name", s: []string{"boss", "boss", "boss", "gone", "", strings.Repeat("s", 41)}[r.IntN(6)]}
	case 10, 11:
		return op{call: "Flush"}
	case 12:
		return op{call: "Finish"}
	case 13:
		return op{call: []string{"Rollback", "Lose"}[r.IntN(2)]}
	case 14:
		return op{call: "Begin"}
	}
	return op{call: "Commit"}
}

// someChoices returns what survives of some changes: parts of each, or of all the same.
func someChoices(r *rand.Rand) []int {
	l := make([]int, 200)
	same, of := r.IntN(2) == 0, r.IntN(3)
	for i := range l {
		l[i] = r.IntN(3) + 3*r.IntN(api.PageSize+1)
		if same {
			l[i] = of + 3*r.IntN(api.PageSize+1)
		}
	}
	return l
}

// faultCode is an error that only a fault gives.
const faultCode = api.Errno(77)

// failed lets the model be what it is after a call that failed by a fault:
// nothing has changed, but that a Finish may have been performed, and that a
// transaction ends with Rollback.
func (m *model) failed(o op) {
	switch {
	case m.active && o.call == "Rollback":
		m.end()
	case m.active && o.call == "Name" && o.s == "gone":
		m.risky = true
	case m.active && m.changed && o.call == "Finish":
		m.bases = append(m.bases, m.now)
	case m.active && m.changed && o.call == "Commit":
		m.bases = append(m.bases, m.now)
		m.vague = true
	}
}

// Promises 14.2 to 14.6: random calls against the model, among them such that
// fail, and such at which the machine crashes.
func TestRandomly(t *testing.T) {
	r := rand.New(rand.NewPCG(14, 1))
	count := map[string]int{}
	for range 300 {
		d := made(t, files{"a": of("xyz"), "boss": ""})
		keep := 2 + r.IntN(5)
		p, m := opened(t, d, keep), &model{now: "xyz"}
		trace := ""
		for range 120 {
			o := anyOp(r, m)
			disturb := r.IntN(12)
			switch disturb {
			case 0, 1:
				d.Faults([]disk.Fault{{At: d.Ops() + 1 + r.IntN(6), Err: faultCode}})
			case 2:
				d.CrashAt(d.Ops() + 1 + r.IntN(10))
			}
			n, err := o.perform(p)
			d.Faults(nil)
			d.CrashAt(0)
			trace += fmt.Sprintf("%v: %d; ", o, err)
			count[fmt.Sprintf("error %d", err)]++
			switch {
			case d.Down():
				failsWith(t, trace, err, api.ErrCrash)
				m.failed(o)
				m.crashed()
				if r.IntN(2) == 0 {
					d.Restart(someChoices(r))
					p.Lose()
				} else {
					crashesAgain(t, r, d)
					p = opened(t, d, keep)
				}
			case err == faultCode:
				m.failed(o)
			default:
				want, bad := o.of(m)
				if n != want || err != bad {
					t.Fatalf("%s: %d, want %d, error %d", trace, n, want, bad)
				}
				count[o.call]++
			}
			if p.lost && r.IntN(2) == 0 {
				continue
			}
			m.agrees(t, trace, p)
			if t.Failed() {
				t.FailNow()
			}
			if err == api.OK && (o.call == "Write" || o.call == "Back") && ahead(t, p, d) > keep {
				t.Fatalf("%s: %d pages are held", trace, ahead(t, p, d))
			}
			if !m.active && !m.loose && r.IntN(4) == 0 {
				// What is not in a transaction is durable.
				d.Restart(someChoices(r))
				p = opened(t, d, keep)
				m.agrees(t, trace+"a restart", p)
			}
		}
	}
	for _, what := range []string{
		"Begin", "Write", "Save", "Back", "Drop", "Journal", "Name", "Flush", "Finish", "Commit", "Rollback", "Lose",
		"error 0", "error 3", "error 10", "error 12", "error 33", "error 77",
	} {
		if count[what] < 100 {
			t.Errorf("%s: %d times", what, count[what])
		}
	}
}

// crashesAgain restarts a machine, and makes it crash up to three times while a
// is opened. At the end, it is up.
func crashesAgain(t *testing.T, r *rand.Rand, d *disk.Disk) {
	t.Helper()
	for range r.IntN(4) {
		d.Restart(someChoices(r))
		d.CrashAt(d.Ops() + 1 + r.IntN(12))
		Open(d, "a", 2)
	}
	d.Restart(someChoices(r))
}
