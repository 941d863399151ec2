package chain

import (
	"fmt"
	"maps"
	"math/rand/v2"
	"slices"
	"strings"
	"testing"

	"annexe/api"
	"annexe/pager"
)

// model is the pages of a file, with the functions by the words of the chapter:
// one Alloc or Free after the other. What fails is to be undone by the caller.
type model struct{ pages []string }

// at returns the number in the four bytes at an offset of a page.
func (m *model) at(page, offset int) int {
	n := 0
	for _, c := range []byte(m.pages[page-1][offset : offset+4]) {
		n = n*256 + int(c)
	}
	return n
}

func (m *model) wellFormed() bool {
	return len(m.pages) > 0 && strings.HasPrefix(m.pages[0], "annxfile")
}

func (m *model) existing(n int) bool { return n > 1 && n <= len(m.pages) }

// reference reports whether a page may be the next one.
func (m *model) reference(n int) bool { return n == 0 || m.existing(n) }

// head returns what the first page says, unless it cannot be correct.
func (m *model) head() (first, free, root int, err api.Errno) {
	if !m.wellFormed() {
		return 0, 0, 0, api.ErrCorrupt
	}
	first, free, root = m.at(1, 8), m.at(1, 12), m.at(1, 16)
	if !m.reference(first) || free > len(m.pages) {
		err = api.ErrCorrupt
	}
	return first, free, root, err
}

func (m *model) write(n int, s string) {
	if n > len(m.pages) {
		m.pages = append(m.pages, "")
	}
	m.pages[n-1] = s
}

func (m *model) alloc() (int, api.Errno) {
	first, free, root, err := m.head()
	if err != api.OK {
		return 0, err
	}
	if first == 0 {
		if len(m.pages) >= 2000 {
			return 0, api.ErrFull
		}
		m.write(len(m.pages)+1, zeros)
		return len(m.pages), api.OK
	}
	next := m.at(first, 0)
	if next == first || !m.reference(next) || free == 0 {
		return 0, api.ErrCorrupt
	}
	m.write(1, firstPage(next, free-1, root))
	m.write(first, zeros)
	return first, api.OK
}

func (m *model) free(n int) api.Errno {
	first, free, root, err := m.head()
	if err != api.OK {
		return err
	}
	if !m.existing(n) {
		return api.ErrRange
	}
	m.write(n, page(first, ""))
	m.write(1, firstPage(n, free+1, root))
	return api.OK
}

func (m *model) frees() ([]int, api.Errno) {
	if !m.wellFormed() {
		return nil, api.ErrCorrupt
	}
	var l []int
	for n := m.at(1, 8); n != 0; n = m.at(n, 0) {
		if !m.existing(n) || len(l) > len(m.pages) {
			return nil, api.ErrCorrupt
		}
		l = append(l, n)
	}
	if len(l) != m.at(1, 12) {
		return nil, api.ErrCorrupt
	}
	return l, api.OK
}

func (m *model) put(s string) (int, api.Errno) {
	first := 0
	for at := (len(s) - 1) / 508 * 508; at >= 0 && s != ""; at -= 508 {
		n, err := m.alloc()
		if err != api.OK {
			return 0, err
		}
		m.write(n, page(first, s[at:min(at+508, len(s))]))
		first = n
	}
	return first, api.OK
}

func (m *model) chain(first, n int) ([]int, api.Errno) {
	if n < 0 {
		return nil, api.ErrRange
	}
	var l []int
	for ; n > 0; n -= 508 {
		if !m.existing(first) {
			return nil, api.ErrCorrupt
		}
		l = append(l, first)
		first = m.at(first, 0)
	}
	if len(l) > 0 && first != 0 {
		return nil, api.ErrCorrupt
	}
	return l, api.OK
}

func (m *model) get(first, n int) (string, api.Errno) {
	l, err := m.chain(first, n)
	if err != api.OK {
		return "", err
	}
	s := ""
	for _, page := range l {
		s += m.pages[page-1][4:]
	}
	return s[:n], api.OK
}

func (m *model) drop(first, n int) api.Errno {
	l, err := m.chain(first, n)
	for _, page := range l {
		if err == api.OK {
			err = m.free(page)
		}
	}
	return err
}

func (m *model) setRoot(n int) api.Errno {
	if !m.wellFormed() {
		return api.ErrCorrupt
	}
	if n < 0 || n > 2000 {
		return api.ErrRange
	}
	m.write(1, firstPage(m.at(1, 8), m.at(1, 12), n))
	return api.OK
}

func (m *model) root() (int, api.Errno) {
	if !m.wellFormed() {
		return 0, api.ErrCorrupt
	}
	return m.at(1, 16), api.OK
}

func (m *model) format() api.Errno {
	if len(m.pages) == 0 {
		m.write(1, firstPage(0, 0, 0))
	}
	if !m.wellFormed() {
		return api.ErrCorrupt
	}
	return api.OK
}

// op is a call of which both the package and the model know.
type op struct {
	what     string
	first, n int
	s        string
}

func (o op) String() string { return fmt.Sprintf("%s %d %d, %d bytes", o.what, o.first, o.n, len(o.s)) }

func (o op) perform(p *pager.Pager) (r result, err api.Errno) {
	switch o.what {
	case "Format":
		err = Format(p)
	case "Root":
		r.n, err = Root(p)
	case "SetRoot":
		err = SetRoot(p, o.n)
	case "Alloc":
		r.n, err = Alloc(p)
	case "Free":
		err = Free(p, o.n)
	case "Frees":
		r.l, err = Frees(p)
	case "Put":
		r.n, err = Put(p, o.s)
	case "Get":
		r.s, err = Get(p, o.first, o.n)
	case "Pages":
		r.l, err = Pages(p, o.first, o.n)
	case "Drop":
		err = Drop(p, o.first, o.n)
	}
	return r, err
}

// of performs a call in the model. If it fails, nothing has changed.
func (o op) of(m *model) (r result, err api.Errno) {
	before := slices.Clone(m.pages)
	switch o.what {
	case "Format":
		err = m.format()
	case "Root":
		r.n, err = m.root()
	case "SetRoot":
		err = m.setRoot(o.n)
	case "Alloc":
		r.n, err = m.alloc()
	case "Free":
		err = m.free(o.n)
	case "Frees":
		r.l, err = m.frees()
	case "Put":
		r.n, err = m.put(o.s)
	case "Get":
		r.s, err = m.get(o.first, o.n)
	case "Pages":
		r.l, err = m.chain(o.first, o.n)
	case "Drop":
		err = m.drop(o.first, o.n)
	}
	if err != api.OK {
		m.pages = before
	}
	return r, err
}

// agree requires that a call of the package does what it does in the model.
func agree(t *testing.T, o op, p *pager.Pager, m *model) result {
	t.Helper()
	r, err := o.perform(p)
	want, bad := o.of(m)
	if r.n != want.n || r.s != want.s || !slices.Equal(r.l, want.l) || err != bad {
		t.Fatalf("%v: %v, error %d, want %v, error %d", o, r, err, want, bad)
	}
	has(t, o.String(), p, m.pages...)
	if t.Failed() {
		t.FailNow()
	}
	return r
}

// holder is somebody who puts chains and allocates pages, and remembers them.
type holder struct {
	t      *testing.T
	r      *rand.Rand
	p      *pager.Pager
	m      *model
	chains map[int]string // contents by first page
	single map[int]struct{}
}

func (h *holder) someText() string {
	n := h.r.IntN(4000)
	if h.r.IntN(2) == 0 {
		n = h.r.IntN(6)*508 + h.r.IntN(3)
	}
	b := make([]byte, n)
	for i := range b {
		b[i] = byte(h.r.IntN(256))
	}
	return string(b)
}

// any returns one of several numbers.
func (h *holder) any(l []int) int {
	slices.Sort(l)
	return l[h.r.IntN(len(l))]
}

// step makes a call, most often one that makes sense.
func (h *holder) step() {
	odd := h.r.IntN(len(h.m.pages)+4) - 2
	switch k := h.r.IntN(16); {
	case k < 4:
		s := h.someText()
		if n := agree(h.t, op{what: "Put", s: s}, h.p, h.m).n; n > 0 {
			h.chains[n] = s
		}
	case k < 6 && len(h.chains) > 0:
		n := h.any(slices.Collect(maps.Keys(h.chains)))
		agree(h.t, op{what: "Drop", first: n, n: len(h.chains[n])}, h.p, h.m)
		delete(h.chains, n)
	case k < 7:
		if n := agree(h.t, op{what: "Alloc"}, h.p, h.m).n; n > 0 {
			h.single[n] = struct{}{}
		}
	case k < 8 && len(h.single) > 0:
		n := h.any(slices.Collect(maps.Keys(h.single)))
		agree(h.t, op{what: "Free", n: n}, h.p, h.m)
		delete(h.single, n)
	case k < 9:
		agree(h.t, op{what: "SetRoot", n: []int{-1, 0, 1, 1000, 2000, 2001}[h.r.IntN(6)]}, h.p, h.m)
	case k < 10:
		agree(h.t, op{what: []string{"Get", "Pages"}[h.r.IntN(2)], first: odd, n: h.r.IntN(3000) - 100}, h.p, h.m)
	case k < 11:
		agree(h.t, op{what: []string{"Format", "Root", "Frees"}[h.r.IntN(3)]}, h.p, h.m)
	case k < 12 && !h.m.existing(odd):
		agree(h.t, op{what: []string{"Free", "Drop"}[h.r.IntN(2)], first: odd, n: odd}, h.p, h.m)
	case k < 13:
		h.transact()
	default:
		h.verify()
	}
}

// transact ends a transaction and begins another one, or goes back to a
// savepoint.
func (h *holder) transact() {
	if h.r.IntN(2) == 0 {
		all(h.t, h.p.Commit(), h.p.Begin())
		return
	}
	n, err := h.p.Save()
	all(h.t, err)
	pages, chains, single := slices.Clone(h.m.pages), maps.Clone(h.chains), maps.Clone(h.single)
	for range h.r.IntN(6) {
		s := h.someText()
		agree(h.t, op{what: "Put", s: s}, h.p, h.m)
		if len(h.single) > 0 {
			f := h.any(slices.Collect(maps.Keys(h.single)))
			agree(h.t, op{what: "Free", n: f}, h.p, h.m)
			delete(h.single, f)
		}
	}
	all(h.t, h.p.Back(n), h.p.Drop(n))
	h.m.pages, h.chains, h.single = pages, chains, single
}

// verify requires promise 15.4: each chain has what was put, and each page but
// the first one is free or in use, and not both, and by one only.
func (h *holder) verify() {
	var used []int
	for _, n := range slices.Sorted(maps.Keys(h.chains)) {
		s := h.chains[n]
		succeeds(h.t, h.p, get(n, len(s)), result{s: s})
		l, err := Pages(h.p, n, len(s))
		all(h.t, err)
		used = append(used, l...)
	}
	for n := range h.single {
		used = append(used, n)
		if h.m.pages[n-1] != zeros {
			h.t.Errorf("page %d is %.20q", n, h.m.pages[n-1])
		}
	}
	free, err := Frees(h.p)
	all(h.t, err)
	used = append(used, free...)
	slices.Sort(used)
	if len(used) != len(h.m.pages)-1 {
		h.t.Errorf("%d pages are free or in use, of %d", len(used), len(h.m.pages))
	}
	for i, n := range used {
		if n != i+2 {
			h.t.Fatalf("page %d is lost, or is there twice", i+2)
		}
	}
}

// Promises 15.1 to 15.4: long random sequences of calls against the model.
func TestRandomly(t *testing.T) {
	for seed := range uint64(12) {
		p := opened(t)
		h := &holder{
			t: t, r: rand.New(rand.NewPCG(15, seed)), p: p, m: &model{},
			chains: map[int]string{}, single: map[int]struct{}{},
		}
		agree(t, op{what: "Format"}, p, h.m)
		for range 400 {
			h.step()
			if t.Failed() {
				t.FailNow()
			}
		}
		h.verify()
		// All of it can be given back.
		for _, n := range slices.Sorted(maps.Keys(h.chains)) {
			agree(t, op{what: "Drop", first: n, n: len(h.chains[n])}, p, h.m)
		}
		for _, n := range slices.Sorted(maps.Keys(h.single)) {
			agree(t, op{what: "Free", n: n}, p, h.m)
		}
		l, err := Frees(p)
		if len(l) != len(h.m.pages)-1 || err != api.OK {
			t.Errorf("%d free pages of %d, error %d", len(l), len(h.m.pages), err)
		}
	}
}

// Promise 15.3: until the file is full, and then with what is given back.
func TestRandomlyFull(t *testing.T) {
	r := rand.New(rand.NewPCG(15, 99))
	p := opened(t, firstPage(0, 0, 0))
	m := &model{pages: []string{firstPage(0, 0, 0)}}
	var l []struct{ first, n int }
	full := 0
	for full < 20 {
		n := 1 + r.IntN(60000)
		o := op{what: "Put", s: text(n)}
		r1, err := o.perform(p)
		want, bad := o.of(m)
		if r1.n != want.n || err != bad {
			t.Fatalf("%v: %d, error %d, want %d, error %d", o, r1.n, err, want.n, bad)
		}
		if err == api.OK {
			l = append(l, struct{ first, n int }{r1.n, n})
			continue
		}
		failsWith(t, o.String(), err, api.ErrFull)
		full++
		has(t, o.String(), p, m.pages...)
		i := r.IntN(len(l))
		agree(t, op{what: "Drop", first: l[i].first, n: l[i].n}, p, m)
		l = slices.Delete(l, i, i+1)
	}
	for _, c := range l {
		succeeds(t, p, get(c.first, c.n), result{s: text(c.n)})
	}
}

// anyPage returns a page that refers to any page, or to none.
func anyPage(r *rand.Rand, count int) string {
	next := r.IntN(count + 3)
	if r.IntN(20) == 0 {
		next = []int{1<<32 - 1, 1 << 31, 65536, 2001}[r.IntN(4)]
	}
	if r.IntN(5) == 0 {
		next = 0
	}
	return page(next, text(r.IntN(508)))
}

// Promises P1 and 15.1 to 15.3: pages that refer to each other in any way.
// A Put may come upon a circle of free pages, and then the model, which forgets
// what it has taken, does not say how it ends.
func TestAnyPages(t *testing.T) {
	r := rand.New(rand.NewPCG(15, 2))
	count := map[string]int{}
	for range 6000 {
		n := 1 + r.IntN(6)
		m := &model{pages: []string{firstPage(r.IntN(n+2), r.IntN(n+2), r.IntN(2001))}}
		if r.IntN(8) == 0 {
			m.pages[0] = anyPage(r, n)
		}
		for range n - 1 {
			m.pages = append(m.pages, anyPage(r, n))
		}
		p := opened(t, m.pages...)
		for range 6 {
			o := op{what: "Put", s: text(1 + r.IntN(2000))}
			switch r.IntN(8) {
			case 0:
				o = op{what: "Alloc"}
			case 1:
				o = op{what: "Free", n: r.IntN(n+3) - 1}
			case 2:
				o = op{what: "Frees"}
			case 3, 4, 5, 6:
				o = op{what: []string{"Get", "Pages", "Drop"}[r.IntN(3)], first: r.IntN(n+3) - 1, n: r.IntN(2000)}
			}
			if o.what == "Put" && circles(m) {
				if _, err := o.perform(p); err != api.OK {
					has(t, o.String(), p, m.pages...)
				}
				break
			}
			_, bad := o.of(&model{pages: slices.Clone(m.pages)})
			agree(t, o, p, m)
			count[fmt.Sprint(o.what, " ", bad)]++
		}
	}
	for _, what := range []string{"Alloc error 0", "Alloc error 32", "Free error 0", "Free error 3", "Free error 32", "Frees error 0", "Frees error 32", "Get error 0", "Get error 32", "Pages error 0", "Pages error 32", "Drop error 0", "Drop error 32", "Put error 0", "Put error 32"} {
		if count[what] < 50 {
			t.Errorf("%s: %d times", what, count[what])
		}
	}
}

// circles reports whether the free pages go round in a circle.
func circles(m *model) bool {
	if !m.wellFormed() {
		return false
	}
	n := m.at(1, 8)
	for range m.pages {
		if !m.existing(n) {
			return false
		}
		n = m.at(n, 0)
	}
	return true
}
