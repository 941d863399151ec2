package node

import (
	"math"
	"slices"
	"strings"
	"testing"
)

// place returns how many cells the left node has, by the words of 16.3.
func place(n Node) int {
	whole := float64(len(spell(n)))
	for k := 1; k < len(n.Cells)-2; k++ {
		left := Node{Leaf: n.Leaf, Cells: n.Cells[:k]}
		if !n.Leaf {
			left.Kids = n.Kids[:k+1]
		}
		if float64(len(spell(left))) >= whole/2 {
			return k
		}
	}
	return len(n.Cells) - 2
}

// parts returns what Split must return if the left node has k cells.
func parts(n Node, k int) (Node, string, Node) {
	if n.Leaf {
		return Node{Leaf: true, Cells: n.Cells[:k]}, n.Cells[k].Key, Node{Leaf: true, Cells: n.Cells[k:]}
	}
	return Node{Cells: n.Cells[:k], Kids: n.Kids[:k+1]}, n.Cells[k].Key, Node{Cells: n.Cells[k+1:], Kids: n.Kids[k+1:]}
}

// splits requires that Split leaves k cells to the left, and that Join inverts it.
func splits(t *testing.T, n Node, k int) {
	t.Helper()
	before := copied(n)
	wantA, wantKey, wantB := parts(before, k)
	a, key, b := Split(n)
	if !same(a, wantA) || key != wantKey || !same(b, wantB) {
		t.Errorf("Split = %s, %q, %s, want %d cells to the left: %s", told(a), key, told(b), k, told(n))
	}
	joins(t, a, key, b, before)
	if !same(n, before) {
		t.Errorf("Split has changed %s to %s", told(before), told(n))
	}
}

// stays requires that Split does not split a node.
func stays(t *testing.T, n Node) {
	t.Helper()
	before := copied(n)
	if a, key, b := Split(n); !same(a, before) || key != "" || !same(b, Node{}) {
		t.Errorf("Split = %s, %q, %s, want the node itself: %s", told(a), key, told(b), told(n))
	}
	if !same(n, before) {
		t.Errorf("Split has changed %s to %s", told(before), told(n))
	}
}

// joins requires that Join returns a node, and leaves its arguments as they were.
func joins(t *testing.T, a Node, key string, b, want Node) {
	t.Helper()
	a2, b2 := copied(a), copied(b)
	if n := Join(a, key, b); !same(n, want) {
		t.Errorf("Join of %s, %q and %s = %s, want %s", told(a), key, told(b), told(n), told(want))
	}
	if !same(a, a2) || !same(b, b2) {
		t.Errorf("Join has changed %s and %s to %s and %s", told(a2), told(b2), told(a), told(b))
	}
}

// Promise 16.3: nodes of fewer than three cells are not split.
func TestSplitFew(t *testing.T) {
	k100 := keyed("k", 100)
	for _, n := range []Node{
		leaf(), leaf(short("", "")), leaf(short("a", "x")), leaf(long("a", 1<<28, 2000)), leaf(short("a", "x"), long("b", 61, 2)), leaf(long(k100, 1<<28, 2), long("l", 1<<28, 3)),
		inner(), inner(""), inner("a"), inner(k100), inner("a", "b"), inner("", k100),
		{Leaf: true, Cells: []Cell{}, Kids: []int{}}, {Cells: []Cell{}, Kids: []int{2000}},
	} {
		stays(t, n)
		writes(t, n)
	}
}

// Promise 16.3: nodes of three cells have one place at which they are split.
func TestSplitThree(t *testing.T) {
	for _, sizes := range [][]int{{1, 1, 1}, {0, 1, 1}, {100, 1, 1}, {1, 100, 1}, {1, 1, 100}, {100, 100, 100}, {0, 100, 100}} {
		l, n := leaf(), inner()
		for i, size := range sizes {
			key := keyed(string(rune('a'+i)), max(1, size))[:size]
			l.Cells = append(l.Cells, long(key, 61+i, 2))
			n.Cells = append(n.Cells, Cell{Key: key})
			n.Kids = append(n.Kids, i+3)
		}
		splits(t, l, 1)
		splits(t, n, 1)
	}
}

// Promise 16.3: the lists that Split returns, written out.
func TestSplitWritten(t *testing.T) {
	a, key, b := Split(leaf(short("a", "1"), short("b", "2"), short("c", "3"), short("d", "4"), short("e", "5")))
	if !same(a, leaf(short("a", "1"), short("b", "2"), short("c", "3"))) || key != "d" || !same(b, leaf(short("d", "4"), short("e", "5"))) {
		t.Errorf("Split of a leaf = %s, %q, %s", told(a), key, told(b))
	}
	n := inner("a", "b", "c", "d", "e")
	n.Kids = []int{10, 20, 30, 40, 50, 60}
	wantA, wantB := inner("a", "b"), inner("d", "e")
	wantA.Kids, wantB.Kids = []int{10, 20, 30}, []int{40, 50, 60}
	a, key, b = Split(n)
	if !same(a, wantA) || key != "c" || !same(b, wantB) {
		t.Errorf("Split of an inner node = %s, %q, %s", told(a), key, told(b))
	}
}

// heavy returns nodes of many cells of which only some are great.
func heavy(count int, great ...int) (Node, Node) {
	l, n := leaf(), inner()
	for i := range count {
		key, value := string(rune('a'+i)), ""
		if slices.Contains(great, i) {
			key, value = keyed(key, 100), strings.Repeat("v", 60)
		}
		l.Cells = append(l.Cells, short(key, value))
		n.Cells = append(n.Cells, Cell{Key: key})
		n.Kids = append(n.Kids, 3+i)
	}
	return l, n
}

// Promise 16.3: each place at which a node of up to twelve cells can be split:
// one cell is so great that the half is reached with it, and not before it.
func TestSplitEveryPlace(t *testing.T) {
	for count := 3; count <= 12; count++ {
		for great := range count {
			l, n := heavy(count, great)
			splits(t, l, min(great+1, count-2))
			if count <= 8 {
				splits(t, n, min(great+1, count-2))
			}
			splits(t, n, place(n))
		}
	}
}

// Promise 16.3: the left node has the half exactly, one byte less and one byte more.
func TestSplitAtHalf(t *testing.T) {
	// Each cell takes 12 bytes, and a leaf 3 more: six cells take 75, and
	// three of them, with 3 more, 39, which is half of 78 and of less.
	for _, c := range []struct{ more, k int }{{0, 3}, {1, 3}, {2, 3}, {3, 3}, {4, 4}, {5, 4}, {20, 4}} {
		l := leaf()
		for i := range 6 {
			l.Cells = append(l.Cells, short(keyed(string(rune('a'+i)), 10), ""))
		}
		l.Cells[5].Key += strings.Repeat("k", c.more)
		if size := Size(l); size != 75+c.more {
			t.Errorf("Size = %d, want %d", size, 75+c.more)
		}
		splits(t, l, c.k)
	}
	// Each cell takes 10 bytes with its Kid, and the rest 7: six cells take
	// 67, and three of them, with 7 more, 37, which is half of 74 and of less.
	for _, c := range []struct{ more, k int }{{0, 3}, {6, 3}, {7, 3}, {8, 4}, {9, 4}, {30, 4}} {
		n := inner("akkkk", "bkkkk", "ckkkk", "dkkkk", "ekkkk", keyed("f", 5+c.more))
		if size := Size(n); size != 67+c.more {
			t.Errorf("Size = %d, want %d", size, 67+c.more)
		}
		splits(t, n, c.k)
	}
}

// Promise 16.3: many nodes, also such that are too long for a page.
func TestSplit(t *testing.T) {
	places := map[int]struct{}{}
	for _, n := range nodes(6, 2000) {
		if len(n.Cells) < 3 {
			stays(t, n)
			continue
		}
		k := place(n)
		splits(t, n, k)
		places[k] = struct{}{}
	}
	if len(places) < 40 {
		t.Errorf("the nodes were split at %d different places", len(places))
	}
}

// Promise 16.3: as many cells as a node may have, and more.
func TestSplitGreat(t *testing.T) {
	// Of a leaf, 3 + 7k is at least half of 3 + 7*65535 from k = 32768 on;
	// of an inner node, 7 + 10k at least half of 7 + 10*65535 from 32768 on.
	for _, isLeaf := range []bool{true, false} {
		splits(t, numbered(isLeaf, 65535), 32768)
		for _, count := range []int{65536, 65537, 70000} {
			n := numbered(isLeaf, count)
			if a, key, b := Split(n); !same(a, Node{}) || key != "" || !same(b, Node{}) {
				t.Errorf("Split of %d cells = %s, %q, %s", count, told(a), key, told(b))
			}
		}
	}
}

// Promise 16.3: nodes that are not valid, with few cells and with many.
func TestSplitInvalid(t *testing.T) {
	for _, spoil := range []func(n *Node){
		func(n *Node) { n.Leaf = !n.Leaf },
		func(n *Node) { n.Kids = append(n.Kids, 2) },
		func(n *Node) { n.Cells = append(n.Cells, n.Cells...) },
		func(n *Node) { n.Cells[len(n.Cells)-1].Key = strings.Repeat("z", 101) },
		func(n *Node) { n.Cells[0].Over = 1 },
		func(n *Node) { n.Cells[len(n.Cells)-1].Over = math.MaxInt64 },
		func(n *Node) { n.Cells[0].Len = -1 },
		func(n *Node) { n.Cells[len(n.Cells)/2].Local += "x" },
		func(n *Node) { slices.Reverse(n.Cells); n.Cells[0].Key += "z" },
	} {
		for count := 1; count < 15; count++ {
			for _, n := range []Node{numbered(true, count), numbered(false, count)} {
				spoil(&n)
				if count == 1 && nodeIsValid(n) {
					continue
				}
				refuses(t, n)
			}
		}
	}
}

// Promise 16.4: both parts of a valid node with one more cell, of any size and
// at any place, are valid nodes that a page has room for.
func TestPartsFit(t *testing.T) {
	r := &sample{7}
	full := 0
	for _, n := range pageNodes(8, 3000) {
		for range 3 {
			more := with(r, n)
			a, _, b := Split(more)
			for _, p := range []Node{a, b} {
				if size := Size(p); size > 512 || len(spell(p)) > 512 {
					t.Errorf("a part has %d bytes: %s", size, told(p))
				}
			}
			writes(t, a)
			if len(more.Cells) >= 3 {
				writes(t, b)
			}
			if Size(more) > 512 {
				full++
			}
		}
	}
	if full < 500 {
		t.Errorf("only %d nodes were too long", full)
	}
}

// with returns a valid node with one more cell, often the greatest that there is.
func with(r *sample, n Node) Node {
	key := r.bytes(r.below(101))
	if r.below(2) == 0 {
		key = r.bytes(100)
	}
	if _, there := lesser(n, key); there {
		key = strings.Repeat("\xff", 100)
	}
	if _, there := lesser(n, key); there {
		return n
	}
	more := r.more(copied(n), key)
	if more.Leaf && r.below(2) == 0 {
		more.Cells[len(more.Cells)-1] = long(key, 1<<28, 2000)
	}
	slices.SortFunc(more.Cells, func(a, b Cell) int { return strings.Compare(a.Key, b.Key) })
	return more
}

// uniform returns a node with as many cells of one size as a page has room for.
// The first bytes of the keys are 1, 2 and so on.
func uniform(isLeaf bool, size, value int) Node {
	n := Node{Leaf: isLeaf}
	if !isLeaf {
		n.Kids = []int{2}
	}
	for i := 1; ; i++ {
		key := keyed(string([]byte{byte(i)}), size)
		more := copied(n)
		switch {
		case !isLeaf:
			more.Cells, more.Kids = append(more.Cells, Cell{Key: key}), append(more.Kids, 3)
		case value > 60:
			more.Cells = append(more.Cells, long(key, value, 2))
		default:
			more.Cells = append(more.Cells, short(key, strings.Repeat("v", value)))
		}
		if len(spell(more)) > 512 {
			return n
		}
		n = more
	}
}

// Promise 16.4: a page that is as full as it can be, with one more cell, the
// greatest that there is, at any place.
func TestFullPartsFit(t *testing.T) {
	great := strings.Repeat("\xff", 99)
	for size := 1; size <= 100; size++ {
		for _, value := range []int{0, 1, 30, 60, 61, 1 << 28} {
			l, n := uniform(true, size, value), uniform(false, size, 0)
			for at := range len(l.Cells) + 1 {
				cell := long(string([]byte{byte(at)})+great, 1<<28, 2000)
				partsFit(t, Node{Leaf: true, Cells: slices.Insert(copied(l).Cells, at, cell)})
			}
			for at := range len(n.Cells) + 1 {
				cell := Cell{Key: string([]byte{byte(at)}) + great}
				partsFit(t, Node{Cells: slices.Insert(copied(n).Cells, at, cell), Kids: append(copied(n).Kids, 2000)})
			}
		}
	}
}

// partsFit requires that a node is split into two that pages have room for.
func partsFit(t *testing.T, n Node) {
	t.Helper()
	a, key, b := Split(n)
	if a, b := Size(a), Size(b); a == 0 || b == 0 || a > 512 || b > 512 {
		t.Errorf("the parts have %d and %d bytes: %s", a, b, told(n))
	}
	joins(t, a, key, b, n)
}

// Promise 16.3: leaves, whose cells are put one behind the other.
func TestJoinLeaves(t *testing.T) {
	ab, c := leaf(short("a", "1"), long("b", 61, 2)), leaf(short("c", "3"))
	joins(t, ab, "c", c, leaf(short("a", "1"), long("b", 61, 2), short("c", "3")))
	joins(t, ab, "", c, leaf(short("a", "1"), long("b", 61, 2), short("c", "3")))
	joins(t, c, "x", ab, leaf(short("c", "3"), short("a", "1"), long("b", 61, 2)))
	joins(t, ab, "b", ab, leaf(short("a", "1"), long("b", 61, 2), short("a", "1"), long("b", 61, 2)))
	joins(t, leaf(), "", leaf(), leaf())
	joins(t, ab, "z", leaf(), ab)
	joins(t, leaf(), "z", ab, ab)
}

// Promise 16.3: inner nodes, with the key between their cells.
func TestJoinInner(t *testing.T) {
	ab, d := inner("a", "b"), inner("d")
	d.Kids = []int{7, 8}
	joins(t, ab, "c", d, Node{Cells: []Cell{{Key: "a"}, {Key: "b"}, {Key: "c"}, {Key: "d"}}, Kids: []int{2, 3, 4, 7, 8}})
	joins(t, d, "", ab, Node{Cells: []Cell{{Key: "d"}, {Key: ""}, {Key: "a"}, {Key: "b"}}, Kids: []int{7, 8, 2, 3, 4}})
	joins(t, inner(), "k", inner(), Node{Cells: []Cell{{Key: "k"}}, Kids: []int{2, 2}})
	joins(t, inner(), "k", d, Node{Cells: []Cell{{Key: "k"}, {Key: "d"}}, Kids: []int{2, 7, 8}})
	joins(t, d, "k", inner(), Node{Cells: []Cell{{Key: "d"}, {Key: "k"}}, Kids: []int{7, 8, 2}})
}

// Promise 16.3, P1: nodes that are not valid, or of two kinds: the first one decides.
func TestJoinAny(t *testing.T) {
	bad := Cell{Key: strings.Repeat("k", 200), Len: -1, Local: "x", Over: math.MinInt64}
	joins(t, leaf(bad), "k", leaf(bad), leaf(bad, bad))
	joins(t, Node{Cells: []Cell{bad}, Kids: []int{-1, 0, 1}}, "k", Node{Cells: []Cell{bad}}, Node{Cells: []Cell{bad, {Key: "k"}, bad}, Kids: []int{-1, 0, 1}})
	joins(t, Node{}, "", Node{}, Node{Cells: []Cell{{}}})
	joins(t, Node{}, "k", inner("a"), Node{Cells: []Cell{{Key: "k"}, {Key: "a"}}, Kids: []int{2, 3}})
	joins(t, leaf(short("a", "x")), "k", Node{}, leaf(short("a", "x")))
	joins(t, leaf(short("a", "x")), "k", inner("b"), Node{Leaf: true, Cells: []Cell{short("a", "x"), {Key: "b"}}})
	joins(t, inner("b"), "k", leaf(short("a", "x")), Node{Cells: []Cell{{Key: "b"}, {Key: "k"}, short("a", "x")}, Kids: []int{2, 3}})
	joins(t, Node{Leaf: true, Kids: []int{2}}, "k", Node{Leaf: true, Kids: []int{3}}, leaf())
	joins(t, leaf(), strings.Repeat("k", 1000), leaf(), leaf())
	joins(t, inner("a"), strings.Repeat("k", 1000), inner("b"), Node{Cells: []Cell{{Key: "a"}, {Key: strings.Repeat("k", 1000)}, {Key: "b"}}, Kids: []int{2, 3, 2, 3}})
}

// Promise 16.4: Join inverts Split; a leaf that is not split stays as it is.
func TestJoinInvertsSplit(t *testing.T) {
	for _, n := range append(nodes(9, 1500), pageNodes(10, 1500)...) {
		if !n.Leaf && len(n.Cells) < 3 {
			continue
		}
		a, key, b := Split(n)
		joins(t, a, key, b, n)
	}
	// By the words of 16.3 an inner node that is not split has one cell more
	// after Join, although no Kid comes with it.
	a, key, b := Split(inner("a", "b"))
	joins(t, a, key, b, Node{Cells: []Cell{{Key: "a"}, {Key: "b"}, {}}, Kids: []int{2, 3, 4}})
}

// spacious returns a node whose lists have room behind them.
func spacious(n Node) Node {
	n.Cells = append(make([]Cell, 0, len(n.Cells)+5), n.Cells...)
	n.Kids = append(make([]int, 0, len(n.Kids)+5), n.Kids...)
	return n
}

// Rules: what Split returns shares nothing with its argument, nor one part with the other.
func TestSplitSharesNothing(t *testing.T) {
	for _, n := range append(nodes(11, 300), leaf(), inner(), leaf(short("a", "x")), inner("a"), leaf(short("a", "x"), short("b", "y")), inner("a", "b")) {
		before := copied(n)
		n = spacious(n)
		a, _, b := Split(n)
		wantB := copied(b)
		spoil(a)
		if !same(n, before) || !same(b, wantB) {
			t.Errorf("the left part shares something: %s", told(before))
		}
		a, _, b = Split(n)
		wantA := copied(a)
		spoil(b)
		if !same(n, before) || !same(a, wantA) {
			t.Errorf("the right part shares something: %s", told(before))
		}
		a, _, b = Split(n)
		spoil(n)
		if !same(a, wantA) || !same(b, wantB) {
			t.Errorf("the node shares something with a part: %s", told(before))
		}
	}
}

// Rules: what Join returns shares nothing with its arguments.
func TestJoinSharesNothing(t *testing.T) {
	all := append(nodes(12, 100), leaf(), inner(), Node{}, leaf(short("a", "x")), inner("a"))
	for i, n := range all {
		for _, o := range []Node{all[(i+1)%len(all)], all[(i+2)%len(all)], {}, leaf(), inner()} {
			a, b := spacious(n), spacious(o)
			a2, b2 := copied(a), copied(b)
			want := copied(Join(a, "k", b))
			spoil(Join(a, "k", b))
			if !same(a, a2) || !same(b, b2) {
				t.Errorf("Join shares something with %s or %s", told(a2), told(b2))
			}
			joined := Join(a, "k", b)
			spoil(a)
			spoil(b)
			if !same(joined, want) {
				t.Errorf("%s or %s shares something with Join", told(a2), told(b2))
			}
		}
	}
}

// Rules: no call writes behind the lists that it is given.
func TestNothingBehind(t *testing.T) {
	for _, n := range nodes(13, 300) {
		n := spacious(n)
		Size(n)
		Write(n)
		Find(n, "k")
		Split(n)
		Join(n, "k", n)
		for _, c := range n.Cells[len(n.Cells):cap(n.Cells)] {
			if c != (Cell{}) {
				t.Errorf("a call has written behind the cells: %s", told(n))
			}
		}
		for _, kid := range n.Kids[len(n.Kids):cap(n.Kids)] {
			if kid != 0 {
				t.Errorf("a call has written behind the kids: %s", told(n))
			}
		}
	}
}
