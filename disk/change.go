package disk

// The states of the directory, and of the contents of a file.
const (
	visible = iota
	durable
	states
)

// The kinds of changes: two of the directory, and two of the contents of a file.
const (
	creation = iota
	removal
	writing
	truncation
)

// change is a change of the directory or of the contents of a file.
type change struct {
	kind int
	name string // the path that is created or removed
	file *file  // the file that is created, or whose contents are changed
	at   int    // the offset of a Write, or the size of a Truncate
	data string // of a Write
}

// ofContents reports whether a change is one of the contents of a file.
func (c change) ofContents() bool { return c.kind == writing || c.kind == truncation }

// perform makes a change visible, and pending behind those that already are.
func (d *Disk) perform(c change) {
	d.apply(c, visible)
	d.pending = append(d.pending, c)
}

// settle makes the pending changes that are chosen durable, in order; the others stay pending.
func (d *Disk) settle(chosen func(change) bool) {
	if d.down {
		// The machine crashes in the call that syncs.
		return
	}
	rest := d.pending[:0]
	for _, c := range d.pending {
		if chosen(c) {
			d.apply(c, durable)
		} else {
			rest = append(rest, c)
		}
	}
	// What is left behind the rest would keep files and data in memory.
	clear(d.pending[len(rest):])
	d.pending = rest
}

// survive makes durable what a choice leaves of a change.
func (d *Disk) survive(c change, choice uint64) {
	switch choice % 3 {
	case 0:
		return
	case 2:
		// Other changes than a Write have no data, so that this leaves them whole.
		c.data = c.data[:choice/3%uint64(len(c.data)+1)]
	}
	d.apply(c, durable)
}

// apply makes a change in one of the states.
func (d *Disk) apply(c change, state int) {
	switch c.kind {
	case creation:
		if d.paths[state] == nil {
			d.paths[state] = map[string]*file{}
		}
		d.paths[state][c.name] = c.file
	case removal:
		delete(d.paths[state], c.name)
	case writing:
		c.file.contents[state] = overwrite(c.file.contents[state], c.at, c.data)
	case truncation:
		c.file.contents[state] = resize(c.file.contents[state], c.at)
	}
}

// overwrite returns contents with data at an offset.
func overwrite(b []byte, at int, data string) []byte {
	// Without data, there is no gap to fill.
	if data == "" {
		return b
	}
	b = resize(b, max(len(b), at+len(data)))
	copy(b[at:], data)
	return b
}

// resize returns contents with so many bytes, the new ones among them zero.
func resize(b []byte, size int) []byte {
	if size <= len(b) {
		return b[:size]
	}
	return append(b, make([]byte, size-len(b))...)
}
