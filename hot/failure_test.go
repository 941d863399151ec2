package hot

import (
	"fmt"
	"math/rand/v2"
	"strings"
	"testing"

	"annexe/api"
	"annexe/disk"
	"annexe/jread"
)

// scene is a disk on which a is to be restored.
type scene struct {
	what string
	l    files
}

func scenes() []scene {
	others := files{"b": pages("12"), "c": "", "c-j": naming("a-s9")}
	ab := boss("a", "b")
	var l []scene
	for _, s := range []scene{
		{"no file", nil},
		{"Clean", files{"a": pages("12")}},
		{"Clean, super-journals that stay", files{"a": pages("12"), "b-s1": "", "a-s1": ab, "b-j": naming("a-s1")}},
		{"Clean, removable super-journals", files{"a": pages("12"), "a-s1": "", "a-s2": ab, "a-s3": ab[1:]}},
		{"Hot", files{"a": pages("xyz"), "a-j": segment("123", 3)}},
		{"Hot, the same contents", files{"a": pages("123"), "a-j": segment("123", 3)}},
		{"Hot, longer", files{"a": pages("xyz"), "a-j": segment("1..4", 4) + segment(".2", 4)}},
		{"Hot, shorter", files{"a": pages("xyz") + "more", "a-j": segment(".2", 2) + "torn"}},
		{"Hot, no file", files{"a-j": segment("12", 2)}},
		{"Hot, no file and no pages", files{"a-j": segment("", 0)}},
		{"Hot, a super-journal that another file needs", files{"a": pages("xyz"), "a-j": segment("12", 2) + trailer("a-s1"), "a-s1": ab, "b-j": naming("a-s1")}},
		{"Hot, a super-journal of its own", files{"a": pages("xyz"), "a-j": segment("12", 2) + trailer("a-s1"), "a-s1": ab, "b-j": naming("a-s2")}},
		{"Hot, a torn super-journal", files{"a": pages("xyz"), "a-j": segment("12", 2) + trailer("a-s1"), "a-s1": ab[1:], "a-s2": ""}},
		{"Hot, no file, and super-journals", files{"a-j": segment("12", 2) + trailer("b-s1"), "b-s1": ab, "a-s2": boss("c", "a"), "b-s3": "", "a-s9": boss("a", "c")}},
		{"Stale, empty", files{"a": pages("xyz"), "a-j": ""}},
		{"Stale, torn", files{"a": pages("xyz"), "a-j": segment("12", 2)[:900], "a-s1": ab[:9]}},
		{"Stale, no file", files{"a-j": naming("gone"), "a-s1": ""}},
		{"Stale, a super-journal that is gone", files{"a": pages("xyz"), "a-j": segment("12", 2) + trailer("a-s1"), "b-j": naming("a-s1")}},
	} {
		l = append(l, scene{s.what, with(others, s.l)})
	}
	return l
}

// end returns what there is after an undisturbed Recover of a.
func (s scene) end(t *testing.T) files {
	t.Helper()
	d := made(t, s.l)
	all(t, Recover(d, "a"))
	d.Restart(nil)
	return seen(d)
}

// between requires of a disk on which a Recover of a has been interrupted that
// the journal is whole unless a has been restored, and that no super-journal is
// gone that a journal names.
func (s scene) between(t *testing.T, what string, d *disk.Disk, end files) {
	t.Helper()
	now := seen(d)
	journal, ok := now["a-j"]
	if ok && journal != s.l["a-j"] {
		t.Errorf("%s, %s: the journal has changed", s.what, what)
	}
	a, there := now["a"]
	want, exists := end["a"]
	if !ok && (a != want || there != exists) {
		t.Errorf("%s, %s: there is neither the journal nor the file as it was", s.what, what)
	}
	for name, data := range now {
		boss := jread.Read(data).Super
		_, was := s.l[boss]
		_, is := now[boss]
		if strings.HasSuffix(name, "-j") && was && !is {
			t.Errorf("%s, %s: %s is gone, and %s names it", s.what, what, boss, name)
		}
	}
	for name, data := range s.l {
		if _, ok := end[name]; ok && name != "a" && now[name] != data {
			t.Errorf("%s, %s: %s has changed", s.what, what, name)
		}
	}
}

// Promises 13.3 and 13.4: each disk call fails in turn, with each error: Recover
// stops there and returns it, and a later Recover gives the file the same contents.
func TestRecoverFails(t *testing.T) {
	for _, s := range scenes() {
		end := s.end(t)
		for _, err := range anyErrors() {
			for n := 1; ; n++ {
				d := made(t, s.l)
				ops := d.Ops()
				d.Faults([]disk.Fault{{At: ops + n, Err: err}})
				got := Recover(d, "a")
				if d.Ops() < ops+n {
					all(t, got)
					break
				}
				what := fmt.Sprintf("error %d at call %d", err, n)
				failsWith(t, s.what+", "+what, got, err)
				if d.Ops() != ops+n {
					t.Errorf("%s, %s: %d calls", s.what, what, d.Ops()-ops)
				}
				s.between(t, what, d, end)
				recovers(t, s.what+", "+what, d, "a", end)
			}
		}
	}
}

// Promise 13.4: two calls of one Recover after the other fail.
func TestRecoverFailsTwice(t *testing.T) {
	for _, s := range scenes() {
		end := s.end(t)
		for n := 1; n < 30; n++ {
			for m := 1; m < 30; m++ {
				d := made(t, s.l)
				d.Faults([]disk.Fault{{At: d.Ops() + n, Err: api.ErrIO}})
				Recover(d, "a")
				d.Faults([]disk.Fault{{At: d.Ops() + m, Err: api.ErrQuota}})
				Recover(d, "a")
				d.Faults(nil)
				what := fmt.Sprintf("errors at call %d and then at call %d", n, m)
				s.between(t, what, d, end)
				recovers(t, s.what+", "+what, d, "a", end)
			}
		}
	}
}

// choices returns ways in which changes survive.
func choices(r *rand.Rand) [][]int {
	l := [][]int{nil, {0, 1}, {1, 0, 1, 0, 1}, {0, 1, 0, 1, 0, 1}, {0, 0, 1, 1, 1}, {1, 1, 0, 0, 1}}
	every := func(c int) []int {
		var k []int
		for range 30 {
			k = append(k, c)
		}
		return k
	}
	l = append(l, every(1), every(2+3*100), every(2+3*511), every(-1))
	for range 8 {
		k := every(0)
		for i := range k {
			k[i] = r.IntN(3) + 3*r.IntN(api.PageSize+1)
		}
		l = append(l, k)
	}
	return l
}

// crash makes the machine crash at the n-th call of a Recover of a, and
// restarts it. It reports whether there was such a call.
func crash(t *testing.T, what string, d *disk.Disk, n int, chosen []int) bool {
	t.Helper()
	d.CrashAt(d.Ops() + n)
	err := Recover(d, "a")
	if !d.Down() {
		all(t, err)
		d.CrashAt(0)
		return false
	}
	failsWith(t, what, err, api.ErrCrash)
	failsWith(t, what+", and again", Recover(d, "a"), api.ErrCrash)
	d.Restart(chosen)
	return true
}

// Promise 13.4: the machine crashes at each disk call in turn, whatever
// survives, and once more in the next Recover.
func TestRecoverCrashes(t *testing.T) {
	r := rand.New(rand.NewPCG(13, 4))
	for _, s := range scenes() {
		end := s.end(t)
		for n, down := 1, true; down; n++ {
			for _, c := range choices(r) {
				d := made(t, s.l)
				what := fmt.Sprintf("a crash at call %d, choices %v", n, c)
				if down = crash(t, s.what, d, n, c); !down {
					break
				}
				s.between(t, what, d, end)
				recovers(t, s.what+", "+what, d, "a", end)
			}
		}
	}
}

func TestRecoverCrashesTwice(t *testing.T) {
	r := rand.New(rand.NewPCG(13, 5))
	for _, s := range scenes() {
		end := s.end(t)
		for n, first := 1, true; first; n++ {
			for m, second := 1, true; first && second; m++ {
				for range 6 {
					l := choices(r)
					c, k := l[r.IntN(len(l))], l[r.IntN(len(l))]
					what := fmt.Sprintf("a crash at call %d, choices %v, and one at call %d, choices %v", n, c, m, k)
					d := made(t, s.l)
					first = crash(t, s.what, d, n, c)
					second = crash(t, s.what, d, m, k)
					s.between(t, what, d, end)
					recovers(t, s.what+", "+what, d, "a", end)
				}
			}
		}
	}
}

// Promise 13.4: a crash behind a call that failed.
func TestRecoverFailsAndCrashes(t *testing.T) {
	r := rand.New(rand.NewPCG(13, 6))
	for _, s := range scenes() {
		end := s.end(t)
		for n := 1; n < 20; n++ {
			for _, c := range choices(r) {
				d := made(t, s.l)
				d.Faults([]disk.Fault{{At: d.Ops() + n, Err: api.ErrIO}})
				Recover(d, "a")
				d.Restart(c)
				what := fmt.Sprintf("an error at call %d, and a crash, choices %v", n, c)
				s.between(t, what, d, end)
				recovers(t, s.what+", "+what, d, "a", end)
			}
		}
	}
}

// Promise 13.4: a deletion of the super-journal that is not durable yet becomes
// so before anything depends on it, as does a creation.
func TestRecoverCrashesSuper(t *testing.T) {
	r := rand.New(rand.NewPCG(13, 7))
	journal := files{"a": pages("xyz"), "a-j": segment("12", 2) + trailer("a-s1")}
	for _, s := range []struct {
		what   string
		before files
		do     func(d *disk.Disk) api.Errno
		stays  bool
		want   files
	}{
		{"a deleted super-journal", files{"a-s1": boss("a", "b")}, func(d *disk.Disk) api.Errno { return d.Delete("a-s1") }, false, files{"a": pages("xyz")}},
		{"a new super-journal", nil, func(d *disk.Disk) api.Errno { return d.Create("a-s1") }, true, files{"a": pages("12")}},
	} {
		for n, down := 1, true; down; n++ {
			for _, c := range choices(r) {
				d := made(t, with(journal, s.before))
				all(t, s.do(d))
				if down = crash(t, s.what, d, n, c); !down {
					break
				}
				if _, there := d.Size("a-s1"); there != s.stays && jread.Read(seen(d)["a-j"]).Super != "" {
					if n > 1 {
						t.Errorf("%s: undone by a crash at call %d", s.what, n)
					}
					continue
				}
				recovers(t, s.what, d, "a", s.want)
			}
		}
	}
}

// Promise 13.4: a journal that was not durable is so before the file changes:
// the file is as it was durable, or a later Recover restores all of it.
func TestRecoverCrashesJournal(t *testing.T) {
	r := rand.New(rand.NewPCG(13, 8))
	for range 40 {
		for n, down := 1, true; down; n++ {
			for _, c := range choices(r) {
				d := made(t, files{"a": pages("xyz")})
				first, second := segment("1", 3), segment("..3", 3)
				all(t, d.Create("a-j"), d.Write("a-j", 0, first), d.Write("a-j", len(first), second))
				if down = crash(t, "a journal that is not durable", d, n, c); !down {
					break
				}
				now := seen(d)
				all(t, Recover(d, "a"))
				if now["a"] != pages("xyz") || now["a-j"] == first+second {
					holdsFirmly(t, fmt.Sprintf("a crash at call %d, choices %v", n, c), d, files{"a": pages("1y3")})
				}
			}
		}
	}
}
