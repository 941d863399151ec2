package pager

import (
	"maps"
	"slices"
	"strings"

	"annexe/api"
)

// transaction is the state of a transaction. Its zero value is none.
type transaction struct {
	active  bool
	changed bool
	begun   int   // how many pages there are when the file is restored
	dirty   pages // pages that are not as they are in the file
	saves   []savepoint
	touched bool // the journal may have been created
	progress
}

// progress is how far a transaction is on the way to its end. With each Write
// and each Back, it begins anew.
type progress struct {
	journaled bool // Journal has been performed since then
	flushed   bool // so has Flush
	settled   bool // the file has all pages, and they are durable
	named     bool // the journal names a super-journal
}

// savepoint is what has to be known to restore the pages of a Save.
type savepoint struct {
	count  int   // how many pages there were
	before pages // those that have been written before the next Save, as they were
}

// pages is pages by their numbers.
type pages map[int]page

type page struct{ data string }

// numbers returns the numbers of the pages in increasing order.
func (l pages) numbers() []int { return slices.Sorted(maps.Keys(l)) }

// Begin begins a transaction.
func (p *Pager) Begin() api.Errno {
	if err := p.ready(); err != api.OK {
		return err
	}
	if p.active {
		return api.ErrState
	}
	p.transaction = transaction{active: true, begun: p.count, dirty: pages{}}
	return api.OK
}

// within returns ErrState if there is no transaction.
func (p *Pager) within() api.Errno {
	if err := p.ready(); err != api.OK {
		return err
	}
	if !p.active {
		return api.ErrState
	}
	return api.OK
}

// changing returns ErrState if there is no transaction whose pages may change.
func (p *Pager) changing() api.Errno {
	if err := p.within(); err != api.OK {
		return err
	}
	if p.named {
		return api.ErrState
	}
	return api.OK
}

// end ends the transaction, if there is one.
func (p *Pager) end() { p.transaction = transaction{} }

// Write gives a page its contents, and appends it if it does not exist.
func (p *Pager) Write(n int, data string) api.Errno {
	if err := p.changing(); err != api.OK {
		return err
	}
	switch {
	case n < 1 || n > p.count+1:
		return api.ErrRange
	case n > api.MaxPages:
		return api.ErrFull
	case len(data) != api.PageSize:
		return api.ErrLong
	}
	if err := p.makeRoom(n); err != api.OK {
		return err
	}
	if err := p.remember(n); err != api.OK {
		return err
	}
	p.dirty[n] = page{strings.Clone(data)}
	p.count = max(p.count, n)
	p.changed = true
	p.progress = progress{}
	return api.OK
}

// makeRoom writes the dirty pages to the file if there would be too many of
// them with one more.
func (p *Pager) makeRoom(n int) api.Errno {
	count := len(p.dirty)
	if _, held := p.dirty[n]; !held {
		count++
	}
	if count <= p.keep {
		return api.OK
	}
	return p.spill()
}

// remember lets the last savepoint know what a page was.
func (p *Pager) remember(n int) api.Errno {
	if len(p.saves) == 0 {
		return api.OK
	}
	last := p.saves[len(p.saves)-1]
	if _, known := last.before[n]; known || n > last.count {
		return api.OK
	}
	data, err := p.content(n)
	if err != api.OK {
		return err
	}
	last.before[n] = page{data}
	return api.OK
}

// Save creates a savepoint and returns its number.
func (p *Pager) Save() (int, api.Errno) {
	if err := p.within(); err != api.OK {
		return 0, err
	}
	p.saves = append(p.saves, savepoint{count: p.count, before: pages{}})
	return len(p.saves), api.OK
}

// Back makes all pages what they were at a savepoint, and removes those above it.
func (p *Pager) Back(k int) api.Errno {
	if err := p.changing(); err != api.OK {
		return err
	}
	if k < 1 || k > len(p.saves) {
		return api.ErrRange
	}
	if err := p.replace(p.written(k), p.saves[k-1].count); err != api.OK {
		return err
	}
	p.removeSaves(k)
	clear(p.saves[k-1].before)
	p.progress = progress{}
	return api.OK
}

// written returns the pages of a savepoint that have been written since, as
// they were then.
func (p *Pager) written(k int) pages {
	then := pages{}
	for _, s := range slices.Backward(p.saves[k-1:]) {
		for n, old := range s.before {
			if n <= p.saves[k-1].count {
				then[n] = old
			}
		}
	}
	return then
}

// replace gives some pages other contents, and sets the number of pages.
func (p *Pager) replace(then pages, count int) api.Errno {
	dirty := maps.Clone(then)
	for n, held := range p.dirty {
		if _, replaced := then[n]; !replaced && n <= count {
			dirty[n] = held
		}
	}
	if len(dirty) > p.keep {
		if err := p.overwrite(dirty); err != api.OK {
			return err
		}
		clear(dirty)
	}
	p.dirty = dirty
	p.count = count
	return api.OK
}

// overwrite writes pages to the file instead of the dirty ones. If that fails,
// the pages still are what they were: until then, all that the file may lose
// is held.
func (p *Pager) overwrite(l pages) api.Errno {
	for _, n := range l.numbers() {
		data, err := p.content(n)
		if err != api.OK {
			return err
		}
		p.dirty[n] = page{data}
	}
	return p.lay(l)
}

// Drop removes a savepoint and those above it, and changes no page.
func (p *Pager) Drop(k int) api.Errno {
	if err := p.within(); err != api.OK {
		return err
	}
	if k < 1 || k > len(p.saves) {
		return api.ErrRange
	}
	if k > 1 {
		p.saves[k-2].inherit(p.saves[k-1:])
	}
	p.removeSaves(k - 1)
	return api.OK
}

// inherit takes over what the savepoints above know. Of several that know a
// page, the first one counts.
func (s savepoint) inherit(above []savepoint) {
	for _, a := range above {
		for n, old := range a.before {
			if _, known := s.before[n]; !known && n <= s.count {
				s.before[n] = old
			}
		}
	}
}

// removeSaves removes the savepoints behind the first k ones.
func (p *Pager) removeSaves(k int) {
	clear(p.saves[k:])
	p.saves = p.saves[:k]
}
