package node

import (
	"strings"

	"annexe/api"
	"annexe/varint"
)

// Read returns the node of a page.
func Read(s string) (Node, api.Errno) {
	n := decode(s)
	if page, err := Write(n); err != api.OK || page != s {
		return Node{}, api.ErrCorrupt
	}
	return n, api.OK
}

// decode returns the only node of which a string may be the page. It does not
// examine whether it is: the caller writes the node, and compares.
func decode(s string) Node {
	r := &reader{s}
	n := Node{Leaf: r.take(len(leafMark)) == leafMark}
	count := r.count()
	if !n.Leaf {
		n.Kids = r.pages(count + 1)
	}
	n.Cells = r.cells(n.Leaf, count)
	return n
}

// reader reads a string from its start. What goes beyond the end of the string
// is read as far as it is there.
type reader struct{ rest string }

// take reads up to n bytes.
func (r *reader) take(n int) string {
	n = min(n, len(r.rest))
	// As a copy, a key does not keep the whole page in memory.
	s := strings.Clone(r.rest[:n])
	r.rest = r.rest[n:]
	return s
}

// count reads the number of cells in two bytes, or 0 if they are not there.
func (r *reader) count() int {
	n, _ := varint.Number("\x00\x00" + r.take(2))
	return n
}

// page reads the number of a page in four bytes, or 0 if they are not there.
func (r *reader) page() int {
	n, _ := varint.Number(r.take(pageSize))
	return n
}

// size reads a length. What is none, or too great for anything in a node, is
// read as 0, and ends the string, so that nothing is read as what it is not.
func (r *reader) size() int {
	n, size, err := varint.Get(r.rest)
	if err != api.OK || n > api.MaxCount {
		r.rest = ""
		return 0
	}
	r.rest = r.rest[size:]
	return int(n)
}

// pages reads the numbers of pages, as many as there are.
func (r *reader) pages(count int) []int {
	var l []int
	for len(l) < count && r.rest != "" {
		l = append(l, r.page())
	}
	return l
}

// cells reads cells, as many as there are.
func (r *reader) cells(leaf bool, count int) []Cell {
	var l []Cell
	for len(l) < count && r.rest != "" {
		l = append(l, r.cell(leaf))
	}
	return l
}

// cell reads the cell of a leaf or of an inner node.
func (r *reader) cell(leaf bool) Cell {
	c := Cell{Key: r.take(r.size())}
	if !leaf {
		return c
	}
	c.Len = r.size()
	c.Local = r.take(min(c.Len, api.MaxLocal))
	if goesOn(c) {
		c.Over = r.page()
	}
	return c
}
