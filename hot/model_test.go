package hot

import (
	"fmt"
	"maps"
	"math/rand/v2"
	"slices"
	"strconv"
	"strings"
	"testing"

	"annexe/api"
	"annexe/disk"
	"annexe/jread"
	"annexe/super"
)

// The functions of this file are the chapter's words, over files that are all durable.

func (l files) visible(path string) bool {
	_, ok := l[path]
	return ok
}

// names reports whether a file has a journal whose Super is this path.
func (l files) names(file, path string) bool {
	s, ok := l[file+"-j"]
	return ok && jread.Read(s).Super == path
}

func (l files) state(file string) int {
	s, ok := l[file+"-j"]
	j := jread.Read(s)
	switch {
	case !ok:
		return 0
	case j.Parts == 0:
		return 2
	case j.Super == "", l.visible(j.Super):
		return 1
	}
	return 2
}

func (l files) fresh(file string) string {
	for n := 1; n <= 1000; n++ {
		path := file + "-s" + strconv.Itoa(n)
		taken := l.visible(path)
		for other := range l {
			if strings.HasSuffix(other, "-j") && len(other) > 2 {
				taken = taken || l.names(other[:len(other)-2], path)
			}
		}
		if !taken {
			return path
		}
	}
	return ""
}

func (l files) removable(file, path string) bool {
	parts := strings.Split(path, "-s")
	after := strings.Join(parts[:len(parts)-1], "-s")
	n, err := strconv.Atoi(parts[len(parts)-1])
	if after == "" || err != nil || n < 1 || after+"-s"+strconv.Itoa(n) != path {
		return false
	}
	children, bad := super.Decode(l[path])
	if bad != api.OK {
		return after == file
	}
	for _, child := range children {
		if l.names(child, path) {
			return false
		}
	}
	return slices.Contains(children, file)
}

// recovered returns what there is after a Recover, and whether a file is
// created that cannot be.
func (l files) recovered(file string) (files, bool) {
	r := maps.Clone(l)
	if l.state(file) == 1 {
		r[file] = jread.Read(l[file+"-j"]).Apply(l[file])
	}
	delete(r, file+"-j")
	left := maps.Clone(r)
	for path := range r {
		if r.removable(file, path) {
			delete(left, path)
		}
	}
	return left, l.state(file) == 1 && file == ""
}

// somePaths are paths that mean something to each other.
func somePaths() []string {
	return []string{"a", "b", "-", "a-s1", "a-s2", "a-s01", "b-s1", "b-s2", "--s1", "-s1", "a-s1-s1", "a-j-s1"}
}

// someFiles returns files with some of these paths, and their journals.
func someFiles(r *rand.Rand) files {
	paths := somePaths()
	path := func() string { return paths[r.IntN(len(paths))] }
	l := files{}
	for range r.IntN(10) {
		l[path()] = pages("uvwxyz"[:r.IntN(7)]) + "more"[:r.IntN(2)]
	}
	for range r.IntN(8) {
		children := []string{"a", "b", "-", path(), path()}
		r.Shuffle(5, func(i, j int) { children[i], children[j] = children[j], children[i] })
		children = children[:2+r.IntN(3)]
		if s, err := super.Encode(children); err == api.OK {
			l[path()] = s[:len(s)-r.IntN(4)/3]
		}
	}
	for range r.IntN(8) {
		l[Journal([]string{"", "a", "b", "-", path()}[r.IntN(5)])] = someJournal(r, path())
	}
	return l
}

// someJournal returns a journal of up to two segments. It may name a
// super-journal, and it may be torn.
func someJournal(r *rand.Rand, path string) string {
	s := ""
	for range r.IntN(3) {
		s += segment("1.3.5"[:r.IntN(6)], 4)
	}
	if r.IntN(2) == 0 {
		s += trailer(path)
	}
	if r.IntN(4) == 0 {
		s = s[:r.IntN(len(s)+1)]
	}
	return s
}

// Promises 13.2 to 13.4: random files against the chapter's words, with faults
// and crashes ahead of each Recover.
func TestRandomly(t *testing.T) {
	r := rand.New(rand.NewPCG(13, 1))
	count := map[string]int{}
	for range 1500 {
		l := someFiles(r)
		d := made(t, l)
		for range 1 + r.IntN(4) {
			for _, file := range append(somePaths(), "", "c") {
				stateIs(t, "randomly", d, file, l.state(file))
				freshIs(t, "randomly", d, file, l.fresh(file))
			}
			file := append(somePaths(), "", "c", "a", "b")[r.IntN(16)]
			count[fmt.Sprint("state ", l.state(file))]++
			want, impossible := l.recovered(file)
			if len(l)-len(want) > 1 {
				count["super-journals removed"]++
			}
			disturb(t, r, d, file)
			if impossible {
				failsWith(t, "randomly", Recover(d, file), api.ErrName)
				holdsFirmly(t, "randomly", d, l)
				continue
			}
			recovers(t, fmt.Sprintf("randomly, %q of%s", file, brief(l)), d, file, want)
			l = want
			if t.Failed() {
				t.FailNow()
			}
		}
	}
	// The random files are not all alike.
	for _, what := range []string{"state 0", "state 1", "state 2", "super-journals removed"} {
		if count[what] < 200 {
			t.Errorf("%s: %d times", what, count[what])
		}
	}
}

// disturb makes a few Recovers fail, or the machine crash in them.
func disturb(t *testing.T, r *rand.Rand, d *disk.Disk, file string) {
	t.Helper()
	for range r.IntN(4) {
		n := d.Ops() + 1 + r.IntN(12)
		if r.IntN(2) == 0 {
			d.Faults([]disk.Fault{{At: n, Err: api.ErrIO}})
		} else {
			d.CrashAt(n)
		}
		err := Recover(d, file)
		if d.Ops() < n && err != api.OK && err != api.ErrName {
			t.Errorf("%d calls: error %d", d.Ops(), err)
		}
		d.Faults(nil)
		d.CrashAt(0)
		if d.Down() || r.IntN(4) == 0 {
			l := choices(r)
			d.Restart(l[r.IntN(len(l))])
		}
	}
}

// Promise P1: every call ends, without a panic, whatever it is given.
func TestAnyArguments(t *testing.T) {
	r := rand.New(rand.NewPCG(13, 2))
	for range 1000 {
		b := make([]byte, r.IntN(50))
		for i := range b {
			b[i] = "-sj019a/\x00\xff"[r.IntN(10)]
		}
		s := string(b)
		l := someFiles(r)
		for _, d := range []*disk.Disk{nil, {}, disk.New(0), made(t, l)} {
			if r.IntN(2) == 0 {
				d.CrashAt(d.Ops() + 1 + r.IntN(4))
			}
			for _, file := range []string{s, Journal(s), s + s, "a"} {
				State(d, file)
				Fresh(d, file)
				Recover(d, file)
				Super(file)
			}
		}
	}
}
