package node

import (
	"fmt"
	"reflect"
	"slices"
	"sort"
	"strings"
	"testing"

	"annexe/api"
)

// four returns a number in four bytes, by the words of 2.3.
func four(n int) string { return string([]byte{byte(n >> 24), byte(n >> 16), byte(n >> 8), byte(n)}) }

// two returns a number in two bytes.
func two(n int) string { return four(n)[2:] }

// num returns the encoding of a number less than 2^56, by the words of 2.1.
func num(n int) string {
	s := string([]byte{byte(n & 127)})
	for n >>= 7; n > 0; n >>= 7 {
		s = string([]byte{byte(n&127 | 128)}) + s
	}
	return s
}

// spell returns the encoding of a node by the words of the chapter, whether or not it is valid.
func spell(n Node) string {
	s := "\x02" + two(len(n.Cells))
	if n.Leaf {
		s = "\x01" + two(len(n.Cells))
	}
	for _, kid := range n.Kids {
		s += four(kid)
	}
	for _, c := range n.Cells {
		s += num(len(c.Key)) + c.Key
		if n.Leaf {
			s += num(c.Len) + c.Local
		}
		if n.Leaf && c.Len > 60 {
			s += four(c.Over)
		}
	}
	return s
}

// filled returns s with zero bytes behind it, up to a page.
func filled(s string) string { return s + strings.Repeat("\x00", max(0, 512-len(s))) }

// put returns s with other bytes from a place on.
func put(s string, at int, other string) string { return s[:at] + other + s[at+len(other):] }

// copied returns a node that shares no list with n.
func copied(n Node) Node {
	return Node{Leaf: n.Leaf, Cells: append([]Cell(nil), n.Cells...), Kids: append([]int(nil), n.Kids...)}
}

// same reports whether two nodes are equal; nil and empty lists are.
func same(a, b Node) bool { return reflect.DeepEqual(copied(a), copied(b)) }

// told returns a node as a short text.
func told(n Node) string {
	s := fmt.Sprintf("%+v", n)
	if len(s) > 400 {
		s = s[:400] + ".."
	}
	return fmt.Sprintf("%d cells, %d kids: %s", len(n.Cells), len(n.Kids), s)
}

// leaf returns a leaf of some cells.
func leaf(cells ...Cell) Node { return Node{Leaf: true, Cells: cells} }

// short returns a cell of a leaf whose value is in the cell.
func short(key, value string) Cell { return Cell{Key: key, Len: len(value), Local: value} }

// long returns a cell of a leaf whose value has n bytes and goes on in another page.
func long(key string, n, over int) Cell {
	return Cell{Key: key, Len: n, Local: strings.Repeat("z", 60), Over: over}
}

// inner returns an inner node with some keys, and with the Kids 2, 3 and so on.
func inner(keys ...string) Node {
	n := Node{Kids: []int{2}}
	for i, key := range keys {
		n.Cells = append(n.Cells, Cell{Key: key})
		n.Kids = append(n.Kids, i+3)
	}
	return n
}

// keyed returns n bytes that begin with those of key.
func keyed(key string, n int) string { return key + strings.Repeat("k", n-len(key)) }

// sample is a sequence of numbers that look random and are always the same.
type sample struct{ x uint32 }

// below returns a number from 0 to n - 1.
func (r *sample) below(n int) int {
	r.x = r.x*1664525 + 1013904223
	return int(r.x>>8) % n
}

// bytes returns n bytes, few or many different ones.
func (r *sample) bytes(n int) string {
	b := make([]byte, n)
	kinds := []int{1, 2, 4, 256}[r.below(4)]
	first := []int{0, 'a', 254}[r.below(3)]
	for i := range b {
		b[i] = byte(first + r.below(kinds))
	}
	return string(b)
}

// keys returns up to n different keys of up to size bytes, in increasing order.
func (r *sample) keys(n, size int) []string {
	var l []string
	for range n {
		l = append(l, r.bytes(r.below(size+1)))
	}
	sort.Strings(l)
	return slices.Compact(l)
}

// length returns the length of a value, often one at an end of a range.
func (r *sample) length() int {
	edges := []int{0, 1, 2, 59, 60, 61, 62, 127, 128, 129, 16383, 16384, 1<<21 - 1, 1 << 21, 1<<28 - 1, 1 << 28}
	if r.below(2) == 0 {
		return edges[r.below(len(edges))]
	}
	return r.below(80)
}

// page returns the number of a page, often the least or the greatest one.
func (r *sample) page() int { return []int{2, 2000, 2 + r.below(1999)}[r.below(3)] }

// node returns a valid node with up to count cells and keys of up to size bytes,
// whatever the length of its encoding.
func (r *sample) node(isLeaf bool, count, size int) Node {
	n := Node{Leaf: isLeaf}
	for _, key := range r.keys(count, size) {
		n = r.more(n, key)
	}
	if !isLeaf {
		n.Kids = append(n.Kids, r.page())
	}
	return n
}

// more returns a node with one more cell, and, if it is an inner node, one more Kid.
func (r *sample) more(n Node, key string) Node {
	c := Cell{Key: key}
	if n.Leaf {
		c.Len = r.length()
		c.Local = r.bytes(min(c.Len, 60))
		if c.Len > 60 {
			c.Over = r.page()
		}
	} else {
		n.Kids = append(n.Kids, r.page())
	}
	n.Cells = append(n.Cells, c)
	return n
}

// nodes returns valid nodes with encodings of all lengths, half of them leaves.
func nodes(seed uint32, count int) []Node {
	r := &sample{seed}
	var l []Node
	for i := range count {
		size := []int{1, 2, 3, 10, 40, 100}[r.below(6)]
		l = append(l, r.node(i%2 == 0, r.below([]int{4, 12, 60, 200}[r.below(4)]), size))
	}
	return l
}

// pageNodes returns valid nodes whose encoding has at most 512 bytes, among
// them such with as many cells as there is room for.
func pageNodes(seed uint32, count int) []Node {
	var l []Node
	for _, n := range nodes(seed, count) {
		for size := len(spell(n)); size > 512; size = len(spell(n)) {
			// No cell takes more than 170 bytes.
			left := len(n.Cells) - (size-512+169)/170
			n.Cells = n.Cells[:left]
			if !n.Leaf {
				n.Kids = n.Kids[:left+1]
			}
		}
		l = append(l, n)
	}
	return l
}

// cellIsValid is the definition of a valid cell, word by word.
func cellIsValid(isLeaf bool, c Cell) bool {
	if len(c.Key) > 100 {
		return false
	}
	if !isLeaf {
		return c.Len == 0 && c.Over == 0 && c.Local == ""
	}
	if c.Len < 0 || c.Len > 268435456 || len(c.Local) > 60 {
		return false
	}
	if c.Len > 60 {
		return len(c.Local) == 60 && c.Over >= 2 && c.Over <= 2000
	}
	return len(c.Local) == c.Len && c.Over == 0
}

// nodeIsValid is the definition of a valid node, except for the length of its encoding.
func nodeIsValid(n Node) bool {
	for i, c := range n.Cells {
		if !cellIsValid(n.Leaf, c) || i > 0 && n.Cells[i-1].Key >= c.Key {
			return false
		}
	}
	for _, kid := range n.Kids {
		if kid < 2 || kid > 2000 {
			return false
		}
	}
	if n.Leaf {
		return len(n.Cells) < 65536 && len(n.Kids) == 0
	}
	return len(n.Cells) < 65536 && len(n.Kids) == len(n.Cells)+1
}

// cursor goes through the bytes of a page. It is bad once something was not there.
type cursor struct {
	rest string
	bad  bool
}

// bytes returns the next n bytes.
func (c *cursor) bytes(n int) string {
	if n > len(c.rest) {
		c.bad = true
		return ""
	}
	s := c.rest[:n]
	c.rest = c.rest[n:]
	return s
}

// fixed returns the number in the next n bytes.
func (c *cursor) fixed(n int) int {
	k := 0
	for _, b := range []byte(c.bytes(n)) {
		k = k<<8 + int(b)
	}
	return k
}

// number returns the number whose encoding comes next, if it is at most greatest.
func (c *cursor) number(greatest int) int {
	n := 0
	for i := range min(len(c.rest), 8) {
		n = n<<7 + int(c.rest[i]&127)
		if c.rest[i] < 128 {
			break
		}
	}
	if n > greatest || !strings.HasPrefix(c.rest, num(n)) {
		c.bad = true
		return 0
	}
	c.bytes(len(num(n)))
	return n
}

// cell returns the cell that comes next.
func (c *cursor) cell(isLeaf bool) Cell {
	cell := Cell{Key: c.bytes(c.number(100))}
	if isLeaf {
		cell.Len = c.number(1 << 28)
		cell.Local = c.bytes(min(cell.Len, 60))
	}
	if cell.Len > 60 {
		cell.Over = c.fixed(4)
	}
	return cell
}

// parse returns the node of a page, and whether there is one: it goes through
// the bytes by the words of the chapter, each of which either holds or not.
func parse(s string) (Node, bool) {
	c := &cursor{rest: s}
	mark := c.fixed(1)
	n := Node{Leaf: mark == 1}
	count := c.fixed(2)
	for i := 0; i <= count && !n.Leaf && !c.bad; i++ {
		n.Kids = append(n.Kids, c.fixed(4))
	}
	for i := 0; i < count && !c.bad; i++ {
		n.Cells = append(n.Cells, c.cell(n.Leaf))
	}
	zero := strings.Repeat("\x00", len(c.rest))
	return n, len(s) == 512 && (mark == 1 || mark == 2) && !c.bad && c.rest == zero && nodeIsValid(n)
}

// writes requires that Size and Write return the length and the page of a node.
func writes(t *testing.T, n Node) {
	t.Helper()
	before, e := copied(n), spell(n)
	if size := Size(n); size != len(e) {
		t.Errorf("Size = %d, want %d: %s", size, len(e), told(n))
	}
	if s, err := Write(n); s != filled(e) || err != api.OK {
		t.Errorf("Write = %x, error %d, want %x: %s", s, err, filled(e), told(n))
	}
	if !same(n, before) {
		t.Errorf("Size or Write has changed %s to %s", told(before), told(n))
	}
}

// overflows requires that a node is too long for a page, and only that.
func overflows(t *testing.T, n Node) {
	t.Helper()
	before, size := copied(n), len(spell(n))
	if k := Size(n); k != size {
		t.Errorf("Size = %d, want %d: %s", k, size, told(n))
	}
	if s, err := Write(n); s != "" || err != api.ErrFull {
		t.Errorf("Write = %d bytes, error %d, want error %d: %s", len(s), err, api.ErrFull, told(n))
	}
	if !same(n, before) {
		t.Errorf("Size or Write has changed %s to %s", told(before), told(n))
	}
}

// refuses requires that a node has neither a size nor a page, nor parts.
func refuses(t *testing.T, n Node) {
	t.Helper()
	before := copied(n)
	if k := Size(n); k != 0 {
		t.Errorf("Size = %d, want 0: %s", k, told(n))
	}
	if s, err := Write(n); s != "" || err != api.ErrForm {
		t.Errorf("Write = %d bytes, error %d, want error %d: %s", len(s), err, api.ErrForm, told(n))
	}
	if a, key, b := Split(n); !same(a, Node{}) || key != "" || !same(b, Node{}) {
		t.Errorf("Split = %s, %q, %s, want empty nodes: %s", told(a), key, told(b), told(n))
	}
	if !same(n, before) {
		t.Errorf("a call has changed %s to %s", told(before), told(n))
	}
}

// fits requires what the definitions say of a node.
func fits(t *testing.T, n Node) {
	t.Helper()
	switch {
	case !nodeIsValid(n):
		refuses(t, n)
	case len(spell(n)) > 512:
		overflows(t, n)
	default:
		writes(t, n)
	}
}

// reads requires that Read returns a node.
func reads(t *testing.T, s string, want Node) {
	t.Helper()
	if n, err := Read(s); !same(n, want) || err != api.OK {
		t.Errorf("Read(%x) = %s, error %d, want %s", s, told(n), err, told(want))
	}
}

// corrupt requires that Read returns an error, and nothing beside it.
func corrupt(t *testing.T, s string) {
	t.Helper()
	if n, err := Read(s); !same(n, Node{}) || err != api.ErrCorrupt {
		t.Errorf("Read(%d bytes, %x) = %s, error %d, want error %d", len(s), s, told(n), err, api.ErrCorrupt)
	}
}

// readsAs requires that Read returns what the definitions say of any string.
func readsAs(t *testing.T, s string) {
	t.Helper()
	if n, ok := parse(s); ok {
		reads(t, s, n)
	} else {
		corrupt(t, s)
	}
}
