package pager

import (
	"annexe/api"
	"annexe/super"
)

// Journal makes sure that the file can be restored.
func (p *Pager) Journal() api.Errno {
	if err := p.within(); err != api.OK || !p.changed {
		return err
	}
	if p.named {
		return api.ErrState
	}
	if err := p.secure(p.dirty); err != api.OK {
		return err
	}
	p.journaled = true
	return api.OK
}

// Name appends a trailer to the journal that names a super-journal.
func (p *Pager) Name(path string) api.Errno {
	if err := p.within(); err != api.OK || !p.changed {
		return err
	}
	if p.named || !p.journaled {
		return api.ErrState
	}
	trailer, err := super.Trailer(path)
	if err != api.OK {
		return err
	}
	if err := p.secure(p.dirty); err != api.OK {
		return err
	}
	if err := p.extend(trailer); err != api.OK {
		return err
	}
	p.named = true
	return api.OK
}

// Flush writes all pages to the file and syncs it.
func (p *Pager) Flush() api.Errno {
	if err := p.within(); err != api.OK || !p.changed {
		return err
	}
	if !p.journaled {
		return api.ErrState
	}
	if err := p.settle(); err != api.OK {
		return err
	}
	p.flushed = true
	return api.OK
}

// settle makes sure that the file has all pages.
func (p *Pager) settle() api.Errno {
	if p.settled {
		return api.OK
	}
	if err := inOrder(p.spill, p.fit, p.syncFile); err != api.OK {
		return err
	}
	p.settled = true
	return api.OK
}

// spill writes the dirty pages to the file.
func (p *Pager) spill() api.Errno {
	if err := p.lay(p.dirty); err != api.OK {
		return err
	}
	clear(p.dirty)
	return api.OK
}

// lay writes pages to the file, as soon as it can be restored.
func (p *Pager) lay(l pages) api.Errno {
	if err := p.secure(l); err != api.OK {
		return err
	}
	p.settled = false
	for _, n := range l.numbers() {
		data := l[n].data
		if err := p.d.Write(p.file, offset(n), data); err != api.OK {
			return err
		}
		p.clean.Put(n, data, false)
	}
	return api.OK
}

// fit cuts off what is behind the last page of the file.
func (p *Pager) fit() api.Errno {
	behind := p.count + 1
	if size, _ := p.d.Size(p.file); size <= offset(behind) {
		return api.OK
	}
	p.clean.Drop(behind)
	return p.d.Truncate(p.file, offset(behind))
}

func (p *Pager) syncFile() api.Errno { return p.d.Sync(p.file) }

// Finish deletes the journal, and the transaction ends.
func (p *Pager) Finish() api.Errno {
	if err := p.within(); err != api.OK {
		return err
	}
	if p.changed {
		if !p.flushed {
			return api.ErrState
		}
		// A Back that failed may have written to the file since the Flush.
		if err := inOrder(p.settle, p.removeJournal); err != api.OK {
			return err
		}
	}
	p.end()
	return api.OK
}

// Commit performs Journal, Flush and Finish.
func (p *Pager) Commit() api.Errno { return inOrder(p.Journal, p.Flush, p.Finish) }

// Rollback ends the transaction, and all pages are as they were when it began.
func (p *Pager) Rollback() api.Errno {
	if err := p.within(); err != api.OK {
		return err
	}
	touched := p.touched
	p.count = p.begun
	p.end()
	if !touched {
		return api.OK
	}
	return p.restore()
}

// Lose ends the transaction, if there is one, and the pager is lost.
func (p *Pager) Lose() {
	if p == nil {
		return
	}
	p.end()
	p.lost = true
}
