package chain

import (
	"annexe/api"
	"annexe/pager"
)

// change is what a call does to a file. Nothing of it is written before all of
// it is known, so that most errors come ahead of the first Write.
type change struct {
	p        *pager.Pager
	count    int // how many pages the file has
	was, now head
	sheets   []sheet
}

// sheet is what a page shall have.
type sheet struct {
	page int
	data string
}

// begin returns a change of nothing so far, or ErrCorrupt if the first page
// cannot be correct in what it tells of free pages.
func begin(p *pager.Pager) (*change, api.Errno) {
	h, err := readHead(p)
	if err != api.OK {
		return nil, err
	}
	count, err := p.Pages()
	if err != api.OK {
		return nil, err
	}
	c := &change{p: p, count: count, was: h, now: h}
	if !c.credible() {
		return nil, api.ErrCorrupt
	}
	return c, api.OK
}

// credible reports whether the file may have the free pages of which the first
// page tells.
func (c *change) credible() bool {
	return refers(c.now.first, c.count) && c.now.free <= c.count
}

// take takes pages: first the free ones, and then new ones.
func (c *change) take(many int) ([]int, api.Errno) {
	var taken []int
	for v, err := range visits(c.p, c.now.first) {
		if err != api.OK {
			return nil, err
		}
		if c.now.free == 0 {
			return nil, api.ErrCorrupt
		}
		taken = append(taken, v.page)
		c.now.first = v.next
		c.now.free--
		if len(taken) == many {
			return taken, api.OK
		}
	}
	last := c.count + many - len(taken)
	if last > api.MaxPages {
		return nil, c.full()
	}
	for n := c.count + 1; n <= last; n++ {
		taken = append(taken, n)
	}
	return taken, api.OK
}

// full returns the error of a Write behind the last page that there can be.
func (c *change) full() api.Errno {
	// The pager names ErrState first. There is no page 0, so that nothing is
	// written by asking.
	if err := c.p.Write(0, ""); err == api.ErrState {
		return err
	}
	return api.ErrFull
}

// free makes a page the first free one.
func (c *change) free(n int) api.Errno {
	if !c.credible() {
		return api.ErrCorrupt
	}
	c.write(n, link(c.now.first, ""))
	c.now.first = n
	c.now.free++
	return api.OK
}

// write lets a page have other contents.
func (c *change) write(n int, data string) {
	c.sheets = append(c.sheets, sheet{n, data})
}

// perform writes all pages, the first one of the file at the end. If a Write
// fails, the pages are what they were.
func (c *change) perform() api.Errno {
	if c.now != c.was {
		c.write(headPage, c.now.page())
	}
	point, err := c.p.Save()
	if err != api.OK {
		return err
	}
	for i, s := range c.sheets {
		if err = c.p.Write(s.page, s.data); err != api.OK {
			if i > 0 {
				c.p.Back(point)
			}
			break
		}
	}
	c.p.Drop(point)
	return err
}
