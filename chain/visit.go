package chain

import (
	"iter"

	"annexe/api"
	"annexe/pager"
)

// room is how many bytes of a chain a page has.
const room = api.PageSize - fieldSize

// length returns how many pages a chain of n bytes has. There is at least one.
func length(n int) int { return (n-1)/room + 1 }

// link returns a page of a chain, or a free page.
func link(next int, data string) string { return padded(field(next) + data) }

// visit is a page that refers to the next one, and what else it has.
type visit struct {
	page, next int
	data       string
}

// visits produces the pages from the first one on. It ends at an invalid one,
// which has an error.
func visits(p *pager.Pager, first int) iter.Seq2[visit, api.Errno] {
	return func(yield func(visit, api.Errno) bool) {
		seen := map[int]struct{}{}
		for n := first; n != 0; {
			v, err := look(p, n, seen)
			if !yield(v, err) || err != api.OK {
				return
			}
			n = v.next
		}
	}
}

// look returns a page, or ErrCorrupt if it is not one that can be referred to,
// or refers to one that is not. What leads back to a page that has been seen
// never ends, and would be more pages than the file has.
func look(p *pager.Pager, n int, seen map[int]struct{}) (visit, api.Errno) {
	count, err := p.Pages()
	if err != api.OK {
		return visit{}, err
	}
	if !exists(n, count) {
		return visit{}, api.ErrCorrupt
	}
	s, err := p.Read(n)
	if err != api.OK {
		return visit{}, err
	}
	seen[n] = struct{}{}
	next := number(s, 0)
	if _, again := seen[next]; again || !refers(next, count) {
		return visit{}, api.ErrCorrupt
	}
	return visit{n, next, s[fieldSize:]}, api.OK
}

// exists reports whether a number is that of a page behind the first one.
func exists(n, count int) bool { return n > headPage && n <= count }

// refers reports whether a number may be that of a next page.
func refers(n, count int) bool { return n == 0 || exists(n, count) }

// chained returns the pages of a chain of n bytes.
func chained(p *pager.Pager, first, n int) ([]visit, api.Errno) {
	if n < 0 {
		return nil, api.ErrRange
	}
	if n == 0 {
		return nil, api.OK
	}
	count, err := p.Pages()
	if err != api.OK {
		return nil, err
	}
	many := length(n)
	if many > count {
		return nil, api.ErrCorrupt
	}
	var l []visit
	for v, err := range visits(p, first) {
		if err != api.OK {
			return nil, err
		}
		l = append(l, v)
		if len(l) == many {
			break
		}
	}
	if len(l) < many || l[many-1].next != 0 {
		return nil, api.ErrCorrupt
	}
	return l, api.OK
}
