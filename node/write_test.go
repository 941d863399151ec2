package node

import (
	"fmt"
	"math"
	"strings"
	"testing"

	"annexe/api"
)

// Promise 16.1: the very bytes of pages; the leaf without cells is the chapter's example.
func TestBytes(t *testing.T) {
	zs := strings.Repeat("z", 60)
	for _, c := range []struct {
		n    Node
		want string
	}{
		{leaf(), "\x01\x00\x00"},
		{leaf(short("", "")), "\x01\x00\x01\x00\x00"},
		{leaf(short("a", "xy")), "\x01\x00\x01\x01a\x02xy"},
		{leaf(short("a", "xy"), long("b", 70, 9)), "\x01\x00\x02\x01a\x02xy\x01b\x46" + zs + "\x00\x00\x00\x09"},
		{leaf(short("", ""), short("\x00", zs), long("\x00\x00", 300, 258)), "\x01\x00\x03\x00\x00\x01\x00\x3c" + zs + "\x02\x00\x00\x82\x2c" + zs + "\x00\x00\x01\x02"},
		{leaf(long("k", 1<<28, 2000)), "\x01\x00\x01\x01k\x81\x80\x80\x80\x00" + zs + "\x00\x00\x07\xd0"},
		{inner(), "\x02\x00\x00\x00\x00\x00\x02"},
		{inner(""), "\x02\x00\x01\x00\x00\x00\x02\x00\x00\x00\x03\x00"},
		{inner("a", "bc"), "\x02\x00\x02\x00\x00\x00\x02\x00\x00\x00\x03\x00\x00\x00\x04\x01a\x02bc"},
		{
			Node{Cells: []Cell{{Key: "a"}, {Key: "\xfe"}, {Key: "\xff"}}, Kids: []int{2000, 2, 258, 2}},
			"\x02\x00\x03\x00\x00\x07\xd0\x00\x00\x00\x02\x00\x00\x01\x02\x00\x00\x00\x02\x01a\x01\xfe\x01\xff",
		},
		{inner(keyed("", 100)), "\x02\x00\x01\x00\x00\x00\x02\x00\x00\x00\x03\x64" + keyed("", 100)},
	} {
		if e := spell(c.n); e != c.want {
			t.Errorf("the encoding is %x, want %x: %s", e, c.want, told(c.n))
		}
		writes(t, c.n)
		reads(t, filled(c.want), c.n)
	}
	if s, err := Write(leaf()); s != "\x01\x00\x00"+strings.Repeat("\x00", 509) || err != api.OK {
		t.Errorf("Write of a leaf without cells = %x, error %d", s, err)
	}
}

// Promise 16.1: lists that are nil and lists that are empty.
func TestEmptyLists(t *testing.T) {
	for _, n := range []Node{{Leaf: true, Cells: []Cell{}, Kids: []int{}}, {Leaf: true, Kids: []int{}}, {Cells: []Cell{}, Kids: []int{2}}} {
		writes(t, n)
	}
	for _, n := range []Node{{}, {Cells: []Cell{}, Kids: []int{}}} {
		refuses(t, n)
	}
}

// Promise 16.1: many nodes against the definitions.
func TestDefinition(t *testing.T) {
	lengths := map[bool]int{}
	for _, n := range nodes(1, 3000) {
		fits(t, n)
		lengths[len(spell(n)) > 512]++
	}
	if lengths[true] < 300 || lengths[false] < 300 {
		t.Errorf("of the nodes, %d are too long and %d are not", lengths[true], lengths[false])
	}
}

// Promise 16.1: keys of all lengths, in a node of one, two or three cells.
func TestKeyLengths(t *testing.T) {
	for size := range 300 {
		for count := range 3 {
			for at := range count + 1 {
				l, n := leaf(), inner()
				for i := range count + 1 {
					key := string(rune('a' + i))
					if i == at {
						key = keyed(key, max(1, size))[:size]
					}
					if size == 0 && at > 0 {
						// The empty key comes before all others.
						continue
					}
					l.Cells = append(l.Cells, short(key, "v"))
					n.Cells = append(n.Cells, Cell{Key: key})
					n.Kids = append(n.Kids, 2)
				}
				if size > 100 {
					refuses(t, l)
					refuses(t, n)
				} else {
					writes(t, l)
					writes(t, n)
				}
			}
		}
	}
}

// Promise 16.1: bytes of keys count, not runes.
func TestKeyBytes(t *testing.T) {
	for _, key := range []string{strings.Repeat("é", 50), strings.Repeat("\xff", 100), strings.Repeat("\x00", 100)} {
		writes(t, leaf(short(key, "")))
		writes(t, inner(key))
		refuses(t, leaf(short(key+"a", "")))
		refuses(t, inner(key+"a"))
	}
	refuses(t, leaf(short(strings.Repeat("é", 51), "")))
	refuses(t, inner(strings.Repeat("é", 51)))
}

// ordered holds lists of keys that are increasing, and others that are not.
func ordered() (up, other [][]string) {
	up = [][]string{
		{"a", "b"}, {"", "a"}, {"", "\x00"}, {"a", "a\x00"}, {"a", "aa"}, {"B", "a"}, {"Z", "_"}, {"a", "é"}, {"\x7f", "\x80"}, {"\x00", "\xff"},
		{"é", "\xff"}, {"10", "9"}, {"\xff", "\xff\x00"}, {"a\x00", "a\x01"}, {"az", "b"},
		{"", "\x00", "\x00\x00"}, {"a", "b", "c"}, {"A", "B", "a"}, {keyed("a", 99), keyed("a", 100), keyed("b", 100)},
		{"a", "b", "c", "d", "e", "f"},
	}
	for _, l := range up {
		for i := range len(l) - 1 {
			swapped := append([]string(nil), l...)
			swapped[i], swapped[i+1] = l[i+1], l[i]
			equal := append([]string(nil), l...)
			equal[i+1] = l[i]
			other = append(other, swapped, equal)
		}
		other = append(other, append(append([]string(nil), l...), l[0]))
	}
	return up, append(other, []string{"", ""}, []string{"a", "a", "a"}, []string{"c", "b", "a"}, []string{"a", "c", "b"}, []string{"b", "c", "a"})
}

// Promise 16.1: keys that increase, byte by byte, and keys that are equal or fall.
func TestKeyOrder(t *testing.T) {
	up, other := ordered()
	for _, keys := range up {
		l := leaf()
		for _, key := range keys {
			l.Cells = append(l.Cells, short(key, ""))
		}
		writes(t, l)
		writes(t, inner(keys...))
	}
	for _, keys := range other {
		l := leaf()
		for i, key := range keys {
			l.Cells = append(l.Cells, short(key, strings.Repeat("v", i)))
		}
		refuses(t, l)
		refuses(t, inner(keys...))
	}
}

// numbers holds numbers at the ends of ranges, and others that would be like
// them if they were cut to fewer bits.
func numbers() []int {
	return []int{
		math.MinInt64, math.MinInt64 + 61, -1 << 32, -1<<32 + 2, -1 << 28, -2000, -2, -1,
		0, 1, 2, 3, 59, 60, 61, 62, 127, 128, 129, 255, 256, 258, 1999, 2000, 2001, 2002, 16383, 16384, 65535, 65536, 65538, 1<<21 - 1, 1 << 21,
		1<<28 - 1, 1 << 28, 1<<28 + 1, 1<<28 + 60, 1<<31 - 1, 1 << 31, 1<<32 - 1, 1 << 32, 1<<32 + 2, 1<<32 + 60, 1<<32 + 2000, 1 << 62, math.MaxInt64,
	}
}

// Promise 16.1: every Len with Locals that are too short, right and too long,
// and with every Over, in the only cell and in one between others.
func TestPayloads(t *testing.T) {
	valid := 0
	for _, n := range numbers() {
		for _, local := range []int{0, 1, 2, n - 1, n, n + 1, 58, 59, 60, 61, 62, 128, 256} {
			if local < 0 || local > 256 {
				continue
			}
			for _, over := range numbers() {
				c := Cell{Key: "b", Len: n, Local: strings.Repeat("z", local), Over: over}
				fits(t, leaf(c))
				fits(t, leaf(short("a", "x"), c, long("c", 61, 2)))
				if cellIsValid(true, c) {
					valid++
				}
			}
		}
	}
	if valid < 100 {
		t.Errorf("only %d cells were valid", valid)
	}
}

// Promise 16.1: the cells at the ends of ranges, one by one.
func TestPayloadEdges(t *testing.T) {
	zs := strings.Repeat("z", 61)
	for _, c := range []struct {
		cell  Cell
		valid bool
	}{
		{Cell{}, true},
		{Cell{Len: -1}, false},
		{Cell{Len: -1, Local: "z"}, false},
		{Cell{Len: 0, Local: "z"}, false},
		{Cell{Len: 0, Over: 2}, false},
		{Cell{Len: 1}, false},
		{Cell{Len: 1, Local: "z"}, true},
		{Cell{Len: 1, Local: "zz"}, false},
		{Cell{Len: 60, Local: zs[:59]}, false},
		{Cell{Len: 60, Local: zs[:60]}, true},
		{Cell{Len: 60, Local: zs[:61]}, false},
		{Cell{Len: 60, Local: zs[:60], Over: 1}, false},
		{Cell{Len: 60, Local: zs[:60], Over: 2}, false},
		{Cell{Len: 61, Local: zs[:60], Over: 0}, false},
		{Cell{Len: 61, Local: zs[:60], Over: 1}, false},
		{Cell{Len: 61, Local: zs[:60], Over: 2}, true},
		{Cell{Len: 61, Local: zs[:60], Over: 2000}, true},
		{Cell{Len: 61, Local: zs[:60], Over: 2001}, false},
		{Cell{Len: 61, Local: zs[:59], Over: 2}, false},
		{Cell{Len: 61, Local: zs[:61], Over: 2}, false},
		{Cell{Len: 61, Local: zs[:61]}, false},
		{Cell{Len: 1 << 28, Local: zs[:60], Over: 2}, true},
		{Cell{Len: 1<<28 + 1, Local: zs[:60], Over: 2}, false},
		{Cell{Len: 1 << 28, Local: "", Over: 2}, false},
		// Bytes of a Local count, not runes.
		{Cell{Len: 60, Local: strings.Repeat("é", 30)}, true},
		{Cell{Len: 60, Local: strings.Repeat("é", 60)}, false},
	} {
		if c.valid {
			writes(t, leaf(c.cell))
		} else {
			refuses(t, leaf(c.cell))
		}
	}
}

// Promise 16.1: cells of inner nodes with more than a key.
func TestInnerCells(t *testing.T) {
	writes(t, inner("a", "b", "c"))
	for at := range 3 {
		for _, c := range []Cell{
			{Len: 1}, {Len: -1}, {Len: 61}, {Local: "x"}, {Local: "\x00"}, {Over: 1}, {Over: 2}, {Over: -1},
			{Len: 1, Local: "x"}, {Len: 61, Local: strings.Repeat("z", 60), Over: 2},
		} {
			n := inner("a", "b", "c")
			c.Key = n.Cells[at].Key
			n.Cells[at] = c
			refuses(t, n)
		}
	}
}

// Promise 16.1: leaves with Kids, and inner nodes with too few and too many of them.
func TestKidCounts(t *testing.T) {
	for count := range 6 {
		for kids := range 10 {
			n := Node{}
			for i := range count {
				n.Cells = append(n.Cells, Cell{Key: string(rune('a' + i))})
			}
			for range kids {
				n.Kids = append(n.Kids, 2)
			}
			if kids == count+1 {
				writes(t, n)
			} else {
				refuses(t, n)
			}
			n.Leaf = true
			if kids == 0 {
				writes(t, n)
			} else {
				refuses(t, n)
			}
		}
	}
}

// Promise 16.1: each Kid in turn, of any number.
func TestKidNumbers(t *testing.T) {
	for count := range 4 {
		for at := range count + 1 {
			for _, kid := range numbers() {
				n := inner([]string{"a", "b", "c"}[:count]...)
				n.Kids[at] = kid
				if kid >= 2 && kid <= 2000 {
					writes(t, n)
				} else {
					refuses(t, n)
				}
			}
		}
	}
}

// Promise 16.1: one thing is wrong, in any cell of a node.
func TestOneWrongCell(t *testing.T) {
	for at := range 5 {
		for _, spoil := range []func(c *Cell){
			func(c *Cell) { c.Key = keyed(c.Key, 101) },
			func(c *Cell) { c.Len-- },
			func(c *Cell) { c.Len = -1 },
			func(c *Cell) { c.Len = 1<<28 + 1 },
			func(c *Cell) { c.Local += "z" },
			func(c *Cell) { c.Local = c.Local[1:] },
			func(c *Cell) { c.Over ^= 1 << 20 },
			func(c *Cell) { c.Over = -c.Over - 1 },
		} {
			n := leaf(short("a", "x"), long("b", 61, 3), short("c", "xyz"), long("d", 61, 2000), short("e", strings.Repeat("v", 60)))
			writes(t, n)
			spoil(&n.Cells[at])
			refuses(t, n)
		}
	}
}

// sized returns a leaf and an inner node whose encodings have size bytes.
func sized(size int) (Node, Node) {
	l, n := leaf(), inner()
	for i := 0; len(spell(l)) < size; i++ {
		// What is left is always more than the shortest cell.
		left := size - len(spell(l)) - 3
		if left > 80 {
			left = 40
		}
		key := string(rune('a' + i))
		value := max(0, min(left, 60))
		l.Cells = append(l.Cells, short(keyed(key, 1+left-value), strings.Repeat("v", value)))
	}
	for i := 0; len(spell(n)) < size; i++ {
		left := size - len(spell(n)) - 6
		if left > 99 {
			left = 60
		}
		n.Cells = append(n.Cells, Cell{Key: keyed(string(rune('a'+i)), 1+left)})
		n.Kids = append(n.Kids, 2000)
	}
	return l, n
}

// Promise 16.1: encodings of all lengths around that of a page.
func TestEncodingLengths(t *testing.T) {
	for size := 300; size < 1200; size++ {
		l, n := sized(size)
		for _, n := range []Node{l, n} {
			if len(spell(n)) != size {
				t.Fatalf("the encoding has %d bytes, want %d: %s", len(spell(n)), size, told(n))
			}
			if size > 512 {
				overflows(t, n)
			} else {
				writes(t, n)
				reads(t, filled(spell(n)), n)
			}
		}
	}
}

// Promise 16.1: the page of an encoding of 512 bytes is the encoding, and one
// more byte, in each kind of place, is too much.
func TestFull(t *testing.T) {
	l, n := sized(512)
	for _, n := range []Node{l, n} {
		if s, err := Write(n); s != spell(n) || err != api.OK {
			t.Errorf("Write = %x, error %d, want %x", s, err, spell(n))
		}
		for at := range n.Cells {
			more := copied(n)
			more.Cells[at].Key += "k"
			fits(t, more)
			overflows(t, more)
		}
	}
	more := copied(l)
	more.Cells[0].Len++
	more.Cells[0].Local += "v"
	overflows(t, more)
}

// numbered returns a leaf, or an inner node, with many cells.
func numbered(isLeaf bool, count int) Node {
	n := Node{Leaf: isLeaf}
	for i := range count {
		n.Cells = append(n.Cells, Cell{Key: fmt.Sprintf("%05d", i)})
	}
	if !isLeaf {
		n.Kids = make([]int, count+1)
		for i := range n.Kids {
			n.Kids[i] = 2 + i%1999
		}
	}
	return n
}

// Promise 16.1: numbers of cells around the greatest one, and those that would
// be small if they were cut to two bytes.
func TestCellCounts(t *testing.T) {
	for _, isLeaf := range []bool{true, false} {
		for _, count := range []int{255, 256, 257, 1000, 65534, 65535, 65536, 65537, 65538, 70000} {
			n := numbered(isLeaf, count)
			want, wantErr := 3+7*count, api.ErrFull
			if !isLeaf {
				want = 3 + 4*(count+1) + 6*count
			}
			if count >= 65536 {
				want, wantErr = 0, api.ErrForm
			}
			size := Size(n)
			if s, err := Write(n); size != want || s != "" || err != wantErr {
				t.Errorf("%d cells: Size = %d, Write = %d bytes, error %d, want %d, error %d", count, size, len(s), err, want, wantErr)
			}
		}
	}
}

// Promise 16.1, P1: a node that is too long and not valid, either.
func TestWriteFirstError(t *testing.T) {
	l, n := sized(513)
	overflows(t, l)
	overflows(t, n)
	for at := range l.Cells {
		wrong := copied(l)
		wrong.Cells[at].Over = 1
		refuses(t, wrong)
	}
	for at := range n.Kids {
		wrong := copied(n)
		wrong.Kids[at] = 1
		refuses(t, wrong)
	}
	l.Kids = []int{2}
	refuses(t, l)
	n.Kids = n.Kids[1:]
	refuses(t, n)
	for _, size := range []int{513, 1 << 20} {
		refuses(t, leaf(short(strings.Repeat("k", size), "")))
		refuses(t, leaf(short("k", strings.Repeat("v", size))))
		refuses(t, inner(strings.Repeat("k", size)))
	}
}
