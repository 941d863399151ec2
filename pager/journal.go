package pager

import (
	"annexe/api"
	"annexe/hot"
	"annexe/jread"
)

// journal is what a pager has written of the journal of its file.
type journal struct {
	created bool
	length  int              // how much of it counts, and is durable
	ragged  bool             // there may be more behind that
	has     map[int]struct{} // the pages that are in it
}

// secure makes sure that the file can be restored after some pages have been
// written to it.
func (p *Pager) secure(l pages) api.Errno {
	if err := p.trim(); err != api.OK {
		return err
	}
	missing := p.missing(l)
	// A journal without any page is needed, too: it tells how many there were.
	if len(missing) == 0 && p.journal.length > 0 {
		return api.OK
	}
	part, err := p.part(missing)
	if err != api.OK {
		return err
	}
	if err := p.extend(part); err != api.OK {
		return err
	}
	for _, n := range missing {
		p.journal.has[n] = struct{}{}
	}
	return api.OK
}

// missing returns the numbers of those pages that the journal has to have and
// has not.
func (p *Pager) missing(l pages) []int {
	var numbers []int
	for _, n := range l.numbers() {
		if _, has := p.journal.has[n]; !has && n <= p.begun {
			numbers = append(numbers, n)
		}
	}
	return numbers
}

// part returns a segment with some pages. They are in the file as they were at
// Begin, because no page is written to it before it is in the journal.
func (p *Pager) part(numbers []int) (string, api.Errno) {
	var l []jread.Record
	for _, n := range numbers {
		data, err := p.stored(n)
		if err != api.OK {
			return "", err
		}
		l = append(l, jread.Record{Page: n, Data: data})
	}
	// The nonce of a segment is where it begins: no other one has it.
	return jread.Part(l, p.begun, p.journal.length)
}

// extend appends to the journal, which is created if there is none, and makes
// all of it durable. Nothing else of it may be pending: then a crash leaves a
// first piece of what is appended, and that does not count.
func (p *Pager) extend(s string) api.Errno {
	path := hot.Journal(p.file)
	err := inOrder(
		p.createJournal,
		func() api.Errno {
			p.journal.ragged = true
			return p.d.Write(path, p.journal.length, s)
		},
		func() api.Errno { return p.d.Sync(path) },
		p.placeJournal,
	)
	if err != api.OK {
		return err
	}
	p.journal.length += len(s)
	p.journal.ragged = false
	return api.OK
}

// createJournal creates the journal if there is none.
func (p *Pager) createJournal() api.Errno {
	if p.journal.created {
		return api.OK
	}
	// The journal gets only some of the pages: a crash must not change the others.
	if err := p.d.Sync(p.file); err != api.OK {
		return err
	}
	p.touched = true
	if err := p.d.Create(hot.Journal(p.file)); err != api.OK {
		return err
	}
	p.journal = journal{created: true, has: map[int]struct{}{}}
	return api.OK
}

// placeJournal makes the path of a new journal durable.
func (p *Pager) placeJournal() api.Errno {
	if p.journal.length > 0 {
		return api.OK
	}
	return p.d.DirSync()
}

// trim removes from the journal what a call that failed may have left behind
// what counts: it may be a trailer.
func (p *Pager) trim() api.Errno {
	path := hot.Journal(p.file)
	size, there := p.d.Size(path)
	if !p.journal.ragged || !there {
		return api.OK
	}
	if size > p.journal.length {
		if err := p.d.Truncate(path, p.journal.length); err != api.OK {
			return err
		}
	}
	if err := p.d.Sync(path); err != api.OK {
		return err
	}
	p.journal.ragged = false
	return api.OK
}

// removeJournal deletes the journal, and makes that durable.
func (p *Pager) removeJournal() api.Errno {
	path := hot.Journal(p.file)
	// It may be gone already, by an earlier attempt.
	if _, there := p.d.Size(path); there {
		if err := p.d.Delete(path); err != api.OK {
			return err
		}
	}
	// If the transaction goes on, because what follows fails, what has been
	// flushed is what the file is restored to.
	p.journal = journal{}
	p.begun = p.count
	return p.d.DirSync()
}
