package chain

import (
	"strings"

	"annexe/api"
	"annexe/pager"
	"annexe/varint"
)

// headPage is the number of the first page.
const headPage = 1

// mark is what a first page begins with.
const mark = "annxfile"

// fieldSize is how many bytes a number has in a page.
const fieldSize = 4

// head is what the first page tells: the first free page, how many of them
// there are, and the root.
type head struct {
	first, free, root int
}

// page returns the first page.
func (h head) page() string {
	return padded(mark + field(h.first) + field(h.free) + field(h.root))
}

// readHead returns what the first page tells, or ErrCorrupt if the file is not
// well-formed.
func readHead(p *pager.Pager) (head, api.Errno) {
	count, err := p.Pages()
	if err != api.OK {
		return head{}, err
	}
	if count == 0 {
		return head{}, api.ErrCorrupt
	}
	s, err := p.Read(headPage)
	if err != api.OK {
		return head{}, err
	}
	rest, ok := strings.CutPrefix(s, mark)
	if !ok {
		return head{}, api.ErrCorrupt
	}
	return head{number(rest, 0), number(rest, 1), number(rest, 2)}, api.OK
}

// field returns a number as it is in a page. All that are written are in range.
func field(n int) string {
	s, _ := varint.Fixed(n)
	return s
}

// number returns the at-th of the numbers at the start of a piece of a page.
func number(s string, at int) int {
	n, _ := varint.Number(s[at*fieldSize:])
	return n
}

// padded returns a page that begins with a string.
func padded(s string) string {
	return s + strings.Repeat("\x00", api.PageSize-len(s))
}
