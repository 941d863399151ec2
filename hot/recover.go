package hot

import (
	"errors"

	"annexe/api"
	"annexe/disk"
	"annexe/jread"
)

// recovery is a file that is being restored.
type recovery struct {
	d       *disk.Disk
	file    string
	journal jread.Journal
	hot     bool
	created bool
}

// Recover makes a file what it was, and removes its journal and the
// super-journals that are not needed any more.
func Recover(d *disk.Disk, file string) api.Errno {
	r := &recovery{d: d, file: file}
	return number(inOrder(
		// Whether the file is Hot depends on which paths are visible. Without
		// this, a crash might make others of them visible.
		step{"sync the directory", r.syncDirectory},
		step{"settle the journal", r.settle},
		step{"remove super-journals", r.removeSupers},
	))
}

// settle restores the file if its journal counts, and removes the journal.
func (r *recovery) settle() error {
	err := inOrder(
		step{"read the journal", r.readJournal},
		// What the file becomes depends on the whole journal, also when the
		// machine crashes while only a part of the file has been restored.
		step{"sync the journal", r.syncJournal},
		step{"restore the file", r.restore},
		r.deletion(Journal(r.file)),
		step{"sync the directory", r.syncDirectory},
	)
	if errors.Is(err, errAbsent) {
		// A Clean file has no journal, and all is done.
		return nil
	}
	return err
}

// readJournal finds out whether the journal counts, and returns errAbsent if
// there is none.
func (r *recovery) readJournal() error {
	j, err := journalOf(r.d, r.file)
	if err != nil {
		return err
	}
	r.journal, r.hot = j, counts(r.d, j)
	return nil
}

func (r *recovery) syncJournal() error { return failing(r.d.Sync(Journal(r.file))) }

// restore makes a Hot file what it was. A Stale one stays as it is.
func (r *recovery) restore() error {
	if !r.hot {
		return nil
	}
	return inOrder(
		step{"create the file", r.create},
		step{"write the file", r.write},
		step{"sync the file", r.syncFile},
		step{"sync the directory", r.syncCreation},
	)
}

// create creates the file if it does not exist.
func (r *recovery) create() error {
	if visible(r.d, r.file) {
		return nil
	}
	r.created = true
	return failing(r.d.Create(r.file))
}

// write gives the file its contents, as far as they differ.
func (r *recovery) write() error {
	now, err := read(r.d, r.file)
	if err != nil {
		return err
	}
	then := r.journal.Apply(now)
	if len(now) > len(then) {
		if err := failing(r.d.Truncate(r.file, len(then))); err != nil {
			return err
		}
	}
	for at := 0; at < len(then); at += api.PageSize {
		page := piece(then, at)
		if piece(now, at) == page {
			continue
		}
		if err := failing(r.d.Write(r.file, at, page)); err != nil {
			return err
		}
	}
	return nil
}

// piece returns a page of some contents, as far as it is there.
func piece(s string, at int) string {
	return s[min(at, len(s)):min(at+api.PageSize, len(s))]
}

func (r *recovery) syncFile() error { return failing(r.d.Sync(r.file)) }

// syncCreation makes the path of the file durable if it is a new one: the
// journal must not be gone before.
func (r *recovery) syncCreation() error {
	if !r.created {
		return nil
	}
	return r.syncDirectory()
}

// removeSupers removes the super-journals that are removable.
func (r *recovery) removeSupers() error {
	l, err := removables(r.d, r.file)
	if err != nil || len(l) == 0 {
		return err
	}
	var steps []step
	for _, path := range l {
		steps = append(steps, r.deletion(path))
	}
	return inOrder(append(steps, step{"sync the directory", r.syncDirectory})...)
}

// deletion is the step that deletes a journal or a super-journal.
func (r *recovery) deletion(path string) step {
	return step{"delete " + path, func() error { return failing(r.d.Delete(path)) }}
}

func (r *recovery) syncDirectory() error { return failing(r.d.DirSync()) }
