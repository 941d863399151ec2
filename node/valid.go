package node

import "annexe/api"

// firstPage is the first page that a tree or a chain may have.
const firstPage = 2

// valid reports whether a node is valid, except possibly for the length of its encoding.
func valid(n Node) bool {
	return len(n.Cells) <= mostCells && validCells(n) && validKids(n)
}

// validCells reports whether all cells are valid and in order.
func validCells(n Node) bool {
	for i, c := range n.Cells {
		if !validCell(n.Leaf, c) {
			return false
		}
		if i > 0 && c.Key <= n.Cells[i-1].Key {
			return false
		}
	}
	return true
}

// validCell reports whether a cell is valid, in a leaf or in an inner node.
func validCell(leaf bool, c Cell) bool {
	if len(c.Key) > api.MaxKey {
		return false
	}
	if !leaf {
		return c == Cell{Key: c.Key}
	}
	return validPayload(c)
}

// validPayload reports whether what a cell of a leaf has beside its key is valid.
func validPayload(c Cell) bool {
	if c.Len < 0 || c.Len > api.MaxCount || len(c.Local) != min(c.Len, api.MaxLocal) {
		return false
	}
	if goesOn(c) {
		return isPage(c.Over)
	}
	return c.Over == 0
}

// goesOn reports whether the value of a cell goes on in other pages.
func goesOn(c Cell) bool { return c.Len > api.MaxLocal }

// validKids reports whether there are as many Kids as there must be, each of them a page.
func validKids(n Node) bool {
	if n.Leaf {
		return len(n.Kids) == 0
	}
	if len(n.Kids) != len(n.Cells)+1 {
		return false
	}
	for _, page := range n.Kids {
		if !isPage(page) {
			return false
		}
	}
	return true
}

// isPage reports whether a node may refer to a page with a number.
func isPage(n int) bool { return n >= firstPage && n <= api.MaxPages }
