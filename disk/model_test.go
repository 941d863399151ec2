package disk

import (
	"fmt"
	"maps"
	"math/rand/v2"
	"slices"
	"strings"
	"testing"

	"annexe/api"
)

// model is a disk by the words of the chapter: it keeps what was durable at the
// last Restart, and all changes since then, and works out the rest from them.
type model struct {
	room   int
	base   snapshot
	log    []entry
	files  int // how many files there were ever; a file's number is its name
	ops    int
	faults []Fault
	crash  int
	down   bool
}

// snapshot is the directory, and the contents of all files by number.
type snapshot struct {
	paths    map[string]int
	contents map[int]string
}

type entry struct {
	kind   string
	path   string
	file   int
	at     int
	data   string
	synced bool
}

func (s snapshot) clone() snapshot {
	return snapshot{maps.Clone(s.paths), maps.Clone(s.contents)}
}

// add makes a change in a snapshot.
func (s snapshot) add(e entry) {
	switch e.kind {
	case "create":
		s.paths[e.path] = e.file
	case "delete":
		delete(s.paths, e.path)
	case "truncate":
		s.contents[e.file] = pad(s.contents[e.file], e.at)[:e.at]
	case "write":
		if e.data != "" {
			old := pad(s.contents[e.file], e.at)
			after := pad(old, e.at+len(e.data))[e.at+len(e.data):]
			s.contents[e.file] = old[:e.at] + e.data + after
		}
	}
}

// pad returns a string with zero bytes, so that it has at least so many.
func pad(s string, size int) string { return s + strings.Repeat("\x00", max(0, size-len(s))) }

// visible is what was there, with all changes.
func (m *model) visible() snapshot {
	s := m.base.clone()
	for _, e := range m.log {
		s.add(e)
	}
	return s
}

func (m *model) seen() map[string]string {
	got := map[string]string{}
	now := m.visible()
	for path, file := range now.paths {
		got[path] = now.contents[file]
	}
	return got
}

func (m *model) restart(choices []int) {
	for _, e := range m.log {
		if e.synced {
			m.base.add(e)
		}
	}
	for _, e := range m.log {
		if e.synced {
			continue
		}
		c := uint64(0)
		if len(choices) > 0 {
			c, choices = uint64(choices[0]), choices[1:]
		}
		if c%3 == 2 && e.kind == "write" {
			e.data = e.data[:c/3%uint64(len(e.data)+1)]
		}
		if c%3 != 0 {
			m.base.add(e)
		}
	}
	m.log, m.faults, m.crash, m.down = nil, nil, 0, false
}

// action is a counted call with its arguments.
type action struct {
	kind  string
	path  string
	at, n int
	data  string
}

// call returns what a call returns.
func (m *model) call(a action) (string, api.Errno) {
	if m.down {
		return "", api.ErrCrash
	}
	m.ops++
	for _, f := range m.faults {
		if f.At == m.ops && f.Err != api.OK {
			return "", f.Err
		}
	}
	crash := m.crash == m.ops
	if crash && (a.kind == "sync" || a.kind == "dirsync") {
		m.down = true
		return "", api.ErrCrash
	}
	data, err := m.effect(a)
	if crash {
		m.down = true
		return "", api.ErrCrash
	}
	return data, err
}

func (m *model) effect(a action) (string, api.Errno) {
	if a.kind == "dirsync" {
		m.settle(func(e entry) bool { return e.kind == "create" || e.kind == "delete" })
		return "", api.OK
	}
	now := m.visible()
	file, ok := now.paths[a.path]
	if a.kind == "create" {
		switch {
		case a.path == "" || strings.Contains(a.path, " "):
			return "", api.ErrName
		case ok:
			return "", api.ErrTwice
		case len(now.paths) >= 60:
			return "", api.ErrFull
		}
		m.files++
		m.log = append(m.log, entry{kind: "create", path: a.path, file: m.files})
		return "", api.OK
	}
	if !ok {
		return "", api.ErrNone
	}
	return m.onFile(now, file, a)
}

func (m *model) onFile(now snapshot, file int, a action) (string, api.Errno) {
	s := now.contents[file]
	change := entry{kind: a.kind, path: a.path, file: file, at: a.at, data: a.data}
	switch a.kind {
	case "delete":
		m.log = append(m.log, change)
	case "read":
		if a.at < 0 || a.n < 0 {
			return "", api.ErrRange
		}
		from := min(a.at, len(s))
		return s[from:min(from+a.n, len(s))], api.OK
	case "write", "truncate":
		end := a.at + len(a.data)
		if a.at < 0 || end > 4000000 {
			return "", api.ErrRange
		}
		if a.kind == "write" && a.data == "" {
			return "", api.OK
		}
		if end > len(s) && m.used(now)-len(s)+end > m.room {
			return "", api.ErrQuota
		}
		m.log = append(m.log, change)
	case "sync":
		m.settle(func(e entry) bool { return e.file == file && (e.kind == "write" || e.kind == "truncate") })
	}
	return "", api.OK
}

func (m *model) used(now snapshot) int {
	n := 0
	for _, file := range now.paths {
		n += len(now.contents[file])
	}
	return n
}

func (m *model) settle(chosen func(entry) bool) {
	for i := range m.log {
		if chosen(m.log[i]) {
			m.log[i].synced = true
		}
	}
}

// on makes a call of a disk.
func (a action) on(d *Disk) (string, api.Errno) {
	switch a.kind {
	case "create":
		return "", d.Create(a.path)
	case "delete":
		return "", d.Delete(a.path)
	case "read":
		return d.Read(a.path, a.at, a.n)
	case "write":
		return "", d.Write(a.path, a.at, a.data)
	case "truncate":
		return "", d.Truncate(a.path, a.at)
	case "sync":
		return "", d.Sync(a.path)
	}
	return "", d.DirSync()
}

// someAction returns a call, mostly a possible one, with small arguments, so that calls meet each other.
func someAction(r *rand.Rand) action {
	kinds := []string{"create", "create", "delete", "read", "write", "write", "write", "write", "truncate", "sync", "dirsync"}
	paths := []string{"a", "a", "a", "b", "b", "c", "none", "", "no path"}
	a := action{kind: kinds[r.IntN(len(kinds))], path: paths[r.IntN(len(paths))]}
	if a.kind == "create" && r.IntN(4) > 0 {
		a.path = paths[r.IntN(6)]
	}
	switch a.kind {
	case "read":
		a.at, a.n = r.IntN(12)-1, r.IntN(12)-1
	case "write":
		a.at, a.data = r.IntN(10)-1, "ABCDEFGHIJKLMNOPQRSTUVWXYZ"[r.IntN(20):][:r.IntN(6)]
	case "truncate":
		a.at = r.IntN(10) - 1
	}
	return a
}

func someChoices(r *rand.Rand) []int {
	l := make([]int, r.IntN(14))
	for i := range l {
		l[i] = r.IntN(30)
		if r.IntN(4) == 0 {
			l[i] = int(r.Uint64())
		}
	}
	return l
}

func someFaults(r *rand.Rand, ops int) []Fault {
	l := make([]Fault, r.IntN(4))
	for i := range l {
		l[i] = Fault{At: ops + r.IntN(8) - 1, Err: []api.Errno{api.OK, api.ErrIO, api.ErrQuota}[r.IntN(3)]}
	}
	return l
}

// Promises 7.1 to 7.6: in many scripts with faults, crashes and restarts, a disk and the model answer the same.
func TestLikeModel(t *testing.T) {
	for seed := range uint64(3000) {
		r := rand.New(rand.NewPCG(seed, 7))
		room := []int{0, 5, 12, 30, -1}[r.IntN(5)]
		d := New(room)
		if room < 0 {
			room = 4000000
		}
		m := &model{room: room, base: snapshot{map[string]int{}, map[int]string{}}}
		var script []string
		for range 60 {
			script = append(script, likeModel(t, r, d, m))
			got, want := seen(d), m.seen()
			if !maps.Equal(got, want) || d.Ops() != m.ops || d.Down() != m.down {
				t.Errorf("%q, %d calls, down %v, want %q, %d calls, down %v", got, d.Ops(), d.Down(), want, m.ops, m.down)
			}
			if t.Failed() {
				t.Fatalf("room %d, script:\n%s", room, strings.Join(script, "\n"))
			}
		}
	}
}

// likeModel makes the same step of a disk and of the model, and returns it as text.
func likeModel(t *testing.T, r *rand.Rand, d *Disk, m *model) string {
	t.Helper()
	switch n := r.IntN(40); {
	case n == 0:
		l := someFaults(r, d.Ops())
		d.Faults(l)
		m.faults = l
		return fmt.Sprintf("faults %v", l)
	case n == 1:
		n := d.Ops() + r.IntN(10) - 2
		d.CrashAt(n)
		m.crash = n
		return fmt.Sprintf("crash at %d", n)
	case n == 2 || m.down && n < 20:
		l := someChoices(r)
		d.Restart(l)
		m.restart(l)
		return fmt.Sprintf("restart %v", l)
	}
	a := someAction(r)
	got, err := a.on(d)
	want, wantErr := m.call(a)
	if got != want || err != wantErr {
		t.Errorf("%v: %q, error %d, want %q, error %d", a, got, err, want, wantErr)
	}
	return fmt.Sprint(a)
}

// Promise 7.6: behind any script, what has been synced survives every Restart, and with all synced it changes nothing.
func TestSyncedSurvivesScripts(t *testing.T) {
	for seed := range uint64(1000) {
		r := rand.New(rand.NewPCG(seed, 8))
		d := New(30)
		for range 40 {
			someAction(r).on(d)
		}
		for _, name := range d.Names() {
			all(t, d.Sync(name))
		}
		all(t, d.DirSync())
		want := seen(d)
		d.Restart(someChoices(r))
		holds(t, fmt.Sprintf("seed %d", seed), d, want)
		d.Restart(someChoices(r))
		holds(t, fmt.Sprintf("seed %d, restarted twice", seed), d, want)
	}
}

// Promise 7.6: without its syncs, or with others, a script has the same answers and leaves the same to be seen.
func TestVisibleWithoutSyncs(t *testing.T) {
	for seed := range uint64(1000) {
		r := rand.New(rand.NewPCG(seed, 9))
		with, without := New(30), New(30)
		for range 40 {
			a := someAction(r)
			data, err := a.on(with)
			if strings.HasSuffix(a.kind, "sync") {
				continue
			}
			other, otherErr := a.on(without)
			if data != other || err != otherErr {
				t.Fatalf("seed %d: %v: %q, error %d, and %q, error %d", seed, a, data, err, other, otherErr)
			}
			holds(t, fmt.Sprintf("seed %d: %v", seed, a), without, seen(with))
		}
		if !slices.Equal(with.Names(), without.Names()) {
			t.Errorf("%q and %q", with.Names(), without.Names())
		}
	}
}
