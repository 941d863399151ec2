package cache

import (
	"slices"
	"strconv"
	"testing"
)

// model is a cache by the words of the chapter: its pages in the order of
// their last use, dirty ones between the clean ones.
type model struct {
	room  int
	pages []page
}

func newModel(room int) *model {
	if room < 1 {
		room = 1
	}
	return &model{room: room}
}

func (m *model) at(n int) int {
	return slices.IndexFunc(m.pages, func(p page) bool { return p.number == n })
}

// use makes a page the last one, and removes the least recently used clean
// pages until the capacity is met.
func (m *model) use(p page) {
	m.pages = slices.DeleteFunc(m.pages, func(o page) bool { return o.number == p.number })
	m.pages = append(m.pages, p)
	for m.cleanPages() > m.room {
		i := slices.IndexFunc(m.pages, func(o page) bool { return !o.dirty })
		m.pages = slices.Delete(m.pages, i, i+1)
	}
}

func (m *model) cleanPages() int {
	n := 0
	for _, p := range m.pages {
		if !p.dirty {
			n++
		}
	}
	return n
}

func (m *model) Get(n int) (string, bool) {
	i := m.at(n)
	if i < 0 {
		return "", false
	}
	p := m.pages[i]
	m.use(p)
	return p.data, true
}

func (m *model) Put(n int, data string, dirty bool) { m.use(page{n, data, dirty}) }

func (m *model) Dirty() []int {
	var l []int
	for _, p := range m.pages {
		if p.dirty {
			l = append(l, p.number)
		}
	}
	slices.Sort(l)
	return l
}

func (m *model) Clean(n int) {
	if i := m.at(n); i >= 0 {
		m.use(page{n, m.pages[i].data, false})
	}
}

func (m *model) Drop(from int) {
	m.pages = slices.DeleteFunc(m.pages, func(p page) bool { return p.number >= from })
}

func (m *model) Len() int { return len(m.pages) }

// kinds of calls.
const (
	get = iota
	put
	putDirty
	clean
	drop
	calls
)

// step is a call of a page, with contents if it is a Put.
type step struct {
	kind, n int
	data    string
}

func (s step) String() string {
	names := [calls]string{"Get", "Put", "Put dirty", "Clean", "Drop"}
	return names[s.kind] + " " + strconv.Itoa(s.n)
}

// pages is what a cache and its model have in common.
type pages interface {
	Get(int) (string, bool)
	Put(int, string, bool)
	Dirty() []int
	Clean(int)
	Drop(int)
	Len() int
}

// do makes a call; of a Get it returns what that returns.
func (s step) do(c pages) (string, bool) {
	switch s.kind {
	case get:
		return c.Get(s.n)
	case put:
		c.Put(s.n, s.data, false)
	case putDirty:
		c.Put(s.n, s.data, true)
	case clean:
		c.Clean(s.n)
	case drop:
		c.Drop(s.n)
	}
	return "", false
}

// alike makes a call of a cache and of its model, and reports whether they are
// alike as far as it shows without a use of further pages.
func alike(c *Cache, m *model, s step) bool {
	x, ok := s.do(c)
	y, want := s.do(m)
	return x == y && ok == want && c.Len() == m.Len() && slices.Equal(c.Dirty(), m.Dirty())
}

// samePages reports whether Get returns the same of a cache and of its model
// for each number. It uses the pages that are cached.
func samePages(c *Cache, m *model, numbers []int) bool {
	for _, n := range numbers {
		if !alike(c, m, step{kind: get, n: n}) {
			return false
		}
	}
	return true
}

// every calls what it is given with each sequence of so many of some steps.
func every(steps []step, most int, l []step, do func([]step)) {
	if most == 0 {
		do(l)
		return
	}
	for _, s := range steps {
		s.data = s.String() + " as call " + strconv.Itoa(len(l))
		every(steps, most-1, append(l, s), do)
	}
}

// Promises 12.1 to 12.3: each sequence of five calls of three pages, for the
// capacities 0, 1 and 2, against the words of the chapter.
func TestEverySequence(t *testing.T) {
	numbers := []int{1, 2, 3}
	var steps []step
	for _, kind := range []int{get, put, putDirty, clean} {
		for _, n := range numbers {
			steps = append(steps, step{kind: kind, n: n})
		}
	}
	steps = append(steps, step{kind: drop, n: 2})
	for room := range 3 {
		wrong := 0
		every(steps, 5, nil, func(l []step) {
			c, m := New(room), newModel(room)
			good := true
			for _, s := range l {
				good = alike(c, m, s) && good
			}
			if good = samePages(c, m, numbers) && good; !good {
				wrong++
			}
			if wrong == 1 && !good {
				t.Errorf("capacity %d: other than the model: %v", room, l)
			}
		})
		if wrong > 1 {
			t.Errorf("capacity %d: %d sequences", room, wrong)
		}
	}
}

// chance is a sequence of numbers that look random, always the same ones.
type chance uint64

// below returns a number from 0 to n-1.
func (c *chance) below(n int) int {
	*c = *c*6364136223846793005 + 1442695040888963407
	return int(uint64(*c) >> 33 % uint64(n))
}

// kind returns a kind of call: Drop now and then, the others often.
func (c *chance) kind() int {
	if c.below(60) == 0 {
		return drop
	}
	return c.below(drop)
}

// Promises 12.1 to 12.3: long random sequences against the words of the
// chapter, for several capacities and numbers of pages.
func TestLongSequences(t *testing.T) {
	r := chance(1)
	for _, room := range []int{-1, 0, 1, 2, 3, 5, 12, 40, 1<<63 - 1} {
		for _, n := range []int{1, 2, 4, 9, 30} {
			numbers := make([]int, n)
			for i := range numbers {
				numbers[i] = i - n/3
			}
			c, m := New(room), newModel(room)
			for k := range 20000 {
				s := step{r.kind(), numbers[r.below(n)], strconv.Itoa(r.below(1000))}
				if !alike(c, m, s) {
					t.Fatalf("capacity %d, %d pages, call %d: %v", room, n, k, s)
				}
				if r.below(50) == 0 && !samePages(c, m, numbers) {
					t.Fatalf("capacity %d, %d pages, after call %d: %v", room, n, k, s)
				}
				if s := flaw(c); s != "" {
					t.Fatalf("capacity %d, %d pages, after call %d: %s", room, n, k, s)
				}
			}
		}
	}
}

// flaw returns what is wrong with the map and the lists of a cache, or the
// empty string.
func flaw(c *Cache) string {
	lists := []*list[page]{c.clean, c.dirty}
	total := 0
	for i, l := range lists {
		total += l.length
		if !sound(l) {
			return "a list is not sound"
		}
		for e := l.first; e != nil; e = e.after {
			if c.pages[e.value.number] != e {
				return "the map and a list differ"
			}
			if e.value.dirty != (i == 1) {
				return "a page is in the wrong list"
			}
		}
	}
	if total != len(c.pages) {
		return "there are more pages in the map than in the lists, or fewer"
	}
	return ""
}
