package node

import (
	"slices"
	"strings"
)

// fewestCells is the number of cells from which on a node is split: an inner
// node needs one for each part and one between them.
const fewestCells = 3

// Find returns the number of cells with a lesser key, and whether the next
// cell has the key. The keys of the node must be increasing.
func Find(n Node, key string) (int, bool) {
	return slices.BinarySearchFunc(n.Cells, key, func(c Cell, key string) int {
		return strings.Compare(c.Key, key)
	})
}

// Split returns a node as two, and the key between them.
func Split(n Node) (Node, string, Node) {
	if !valid(n) {
		return Node{}, "", Node{}
	}
	all := len(n.Cells)
	if all < fewestCells {
		return part(n, 0, all), "", Node{}
	}
	k := leftCells(n)
	key := n.Cells[k].Key
	if n.Leaf {
		return part(n, 0, k), key, part(n, k, all)
	}
	return part(n, 0, k), key, part(n, k+1, all)
}

// leftCells returns how many cells of a node go to the left.
func leftCells(n Node) int {
	whole, most := Size(n), len(n.Cells)-2
	left := bare(n.Leaf)
	for i, c := range n.Cells[:most] {
		left += room(n.Leaf, c)
		if 2*left >= whole {
			return i + 1
		}
	}
	return most
}

// part returns a valid node with the cells from one place up to another, and
// in an inner node the Kids around them.
func part(n Node, from, to int) Node {
	p := Node{Leaf: n.Leaf, Cells: slices.Clone(n.Cells[from:to])}
	if !n.Leaf {
		p.Kids = slices.Clone(n.Kids[from : to+1])
	}
	return p
}

// Join returns two nodes as one, with a key between them if they are inner nodes.
func Join(a Node, key string, b Node) Node {
	if a.Leaf {
		return Node{Leaf: true, Cells: slices.Concat(a.Cells, b.Cells)}
	}
	between := []Cell{{Key: key}}
	return Node{Cells: slices.Concat(a.Cells, between, b.Cells), Kids: slices.Concat(a.Kids, b.Kids)}
}
