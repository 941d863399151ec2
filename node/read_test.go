package node

import (
	"strings"
	"testing"

	"annexe/api"
)

// somePages returns the pages of some nodes of each kind and size.
func somePages() []string {
	l, n := sized(512)
	l2, n2 := sized(511)
	all := []Node{
		leaf(), leaf(short("", "")), leaf(short("a", "xy")), leaf(short("a", ""), short("b", "v"), short("c", strings.Repeat("v", 60))),
		leaf(short("", "v"), long("k", 300, 258), long("l", 1<<28, 2000)), leaf(long("\x01\x00\x02", 61, 2)),
		inner(), inner(""), inner("a", "b"), inner("a", "b", "c"), inner("\x00", "\x00\x00", "\x02\x00\x01"), inner(keyed("a", 100), keyed("b", 99)),
		l, n, l2, n2,
	}
	var s []string
	for _, n := range all {
		s = append(s, filled(spell(n)))
	}
	return s
}

// Promise 16.4: Read inverts Write.
func TestReadInvertsWrite(t *testing.T) {
	seen := map[string]Node{}
	for _, n := range pageNodes(2, 4000) {
		s, err := Write(n)
		if err != api.OK || len(s) != api.PageSize {
			t.Fatalf("Write = %d bytes, error %d: %s", len(s), err, told(n))
		}
		reads(t, s, n)
		if other, ok := seen[s]; ok && !same(n, other) {
			t.Errorf("%s and %s have one page", told(n), told(other))
		}
		seen[s] = n
	}
}

// Promise 16.1: every proper prefix and suffix of a page, and bytes too many.
func TestReadLengths(t *testing.T) {
	for _, s := range somePages() {
		for k := range 512 {
			corrupt(t, s[:k])
			corrupt(t, s[k+1:])
			corrupt(t, strings.TrimRight(s[:k], "\x00"))
		}
		for _, more := range []string{"\x00", "\x01", "\xff", s, strings.Repeat("\x00", 512)} {
			corrupt(t, s+more)
			corrupt(t, more+s)
		}
		reads(t, s, nodeOf(t, s))
	}
}

// nodeOf returns the node of a page, by the definitions.
func nodeOf(t *testing.T, s string) Node {
	t.Helper()
	n, ok := parse(s)
	if !ok {
		t.Fatalf("there is no node of %x", s)
	}
	return n
}

// Promise 16.1: every first byte.
func TestReadFirstByte(t *testing.T) {
	for _, s := range somePages() {
		for b := range 256 {
			changed := put(s, 0, string([]byte{byte(b)}))
			readsAs(t, changed)
			if b != 1 && b != 2 {
				corrupt(t, changed)
			}
		}
	}
	// Without a Kid, it is not an inner node; with Kids, it is not a leaf.
	corrupt(t, filled("\x02\x00\x00"))
	corrupt(t, filled("\x01\x00\x00\x00\x00\x00\x02"))
}

// Promise 16.1: a byte other than zero at each place behind an encoding.
func TestReadBytesBehind(t *testing.T) {
	for _, s := range somePages() {
		n := nodeOf(t, s)
		for at := len(spell(n)); at < 512; at++ {
			for _, b := range []string{"\x01", "\x02", "\x80", "\xff"} {
				corrupt(t, put(s, at, b))
			}
		}
	}
}

// Promise 16.1: one byte of a page, changed to every other one.
func TestReadChangedByte(t *testing.T) {
	for _, s := range somePages() {
		size := len(spell(nodeOf(t, s)))
		for at := range min(size+3, 512) {
			step := 1
			if at >= 140 {
				step = 15
			}
			for b := 0; b < 256; b += step {
				readsAs(t, put(s, at, string([]byte{byte(b)})))
			}
		}
	}
}

// Promise 16.1: several bytes of a page changed, and parts of it moved.
func TestReadChangedBytes(t *testing.T) {
	r := &sample{3}
	pages := somePages()
	for range 20000 {
		s := pages[r.below(len(pages))]
		size := len(spell(nodeOf(t, s)))
		for range 1 + r.below(3) {
			at := r.below(min(size+3, 512))
			switch r.below(3) {
			case 0:
				s = put(s, at, string([]byte{byte(r.below(256))}))
			case 1:
				s = s[:at] + s[at+1:] + "\x00"
			default:
				s = s[:at] + string([]byte{byte(r.below(4))}) + s[at:511]
			}
		}
		readsAs(t, s)
	}
}

// padded returns encodings of a number that are longer than they must be.
func padded(n int) []string {
	var l []string
	for k := 1; k <= 6; k++ {
		l = append(l, strings.Repeat("\x80", k)+num(n))
	}
	return l
}

// Promise 16.1: numbers whose encoding is not the shortest.
func TestReadPadded(t *testing.T) {
	for _, size := range []int{0, 1, 5, 60, 61, 100, 127, 128} {
		value := strings.Repeat("v", min(size, 60))
		over := ""
		if size > 60 {
			over = four(9)
		}
		reads(t, filled("\x01\x00\x01\x01a"+num(size)+value+over), leaf(Cell{Key: "a", Len: size, Local: value, Over: 9 * len(over) / 4}))
		for _, p := range padded(size) {
			corrupt(t, filled("\x01\x00\x01\x01a"+p+value+over))
		}
		key := strings.Repeat("k", size)
		for _, p := range padded(size) {
			corrupt(t, filled("\x01\x00\x01"+p+key+"\x00"))
			corrupt(t, filled("\x02\x00\x01"+four(2)+four(3)+p+key))
		}
	}
}

// Promise 16.1: numbers that are too great, up to the greatest that nine bytes can tell.
func TestReadGreatNumbers(t *testing.T) {
	zs := strings.Repeat("z", 60)
	great := []string{
		num(1<<28 + 1), num(1 << 29), num(1<<31 - 1), num(1 << 31), num(1 << 32), num(1<<32 + 61), num(1<<56 - 1),
		"\x80\xc0\x80\x80\x80\x80\x80\x80\x00",             // 2^56, whose first group is not zero
		"\xc0\x80\x80\x80\x80\x80\x80\x80\x00",             // 2^63
		"\xc0\x80\x80\x80\x80\x80\x80\x80\x3d",             // 2^63 + 61
		"\xff\xff\xff\xff\xff\xff\xff\xff\xff",             // 2^64 - 1
		"\xff\xff\xff\xff\xff\xff\xff\xff\x80",             // 2^64 - 128
		"\x80\x80\x80\x80\x80\x80\x80\x80\x80",             // no encoding
		"\x80\x80\x80\x80\x80\x80\x80\x80\x80\x80\x80\x01", // no encoding
	}
	for _, s := range great {
		corrupt(t, filled("\x01\x00\x01\x01a"+s+zs+four(9)))
		corrupt(t, filled("\x01\x00\x01"+s+zs+four(9)))
		corrupt(t, filled("\x02\x00\x01"+four(2)+four(3)+s+zs))
		// The string ends within the number or right behind it.
		corrupt(t, "\x01\x00\x01\x01a"+s)
		corrupt(t, "\x02\x00\x01"+four(2)+four(3)+s[:len(s)-1])
	}
	reads(t, filled("\x01\x00\x01\x01a"+num(1<<28)+zs+four(9)), leaf(long("a", 1<<28, 9)))
	reads(t, filled("\x01\x00\x01\x64"+keyed("", 100)+"\x00"), leaf(short(keyed("", 100), "")))
	corrupt(t, filled("\x01\x00\x01\x65"+keyed("", 101)+"\x00"))
	corrupt(t, filled("\x02\x00\x01"+four(2)+four(3)+"\x65"+keyed("", 101)))
}

// Promise 16.1: pages of nodes that are not valid.
func TestReadInvalid(t *testing.T) {
	_, other := ordered()
	for _, keys := range other {
		l := leaf()
		for _, key := range keys {
			l.Cells = append(l.Cells, short(key, "v"))
		}
		corrupt(t, filled(spell(l)))
		corrupt(t, filled(spell(inner(keys...))))
	}
	for _, page := range []int{0, 1, 2001, 2002, 65536, 65538, 1 << 24, 1<<31 + 2, 1<<32 - 1} {
		corrupt(t, filled(spell(leaf(long("a", 61, page)))))
		corrupt(t, filled(spell(leaf(long("a", 61, 2), long("b", 61, page)))))
		for at := range 4 {
			n := inner("a", "b", "c")
			n.Kids[at] = page
			corrupt(t, filled(spell(n)))
		}
	}
}

// Promise 16.1: the number of cells is not that of the cells.
func TestReadCounts(t *testing.T) {
	for _, s := range somePages() {
		for count := range 65536 {
			// Beyond what a page can hold, some numbers will do.
			if count < 600 || count%251 == 0 || count > 65530 {
				readsAs(t, put(s, 1, two(count)))
			}
		}
	}
	corrupt(t, filled("\x01\x00\x02\x01a\x00"))
	corrupt(t, filled("\x01\x00\x00\x01a\x00"))
	corrupt(t, filled("\x01\x01\x00\x01a\x00"))
	corrupt(t, filled("\x02\x00\x00"+four(2)+four(3)+"\x01a"))
	corrupt(t, filled("\x02\x00\x02"+four(2)+four(3)+"\x01a"))
	// A cell whose bytes are all zero may only be the first one.
	reads(t, filled("\x01\x00\x01"), leaf(short("", "")))
	corrupt(t, filled("\x01\x00\x02"))
}

// Promise 16.1: the page ends within the last cell.
func TestReadEndsEarly(t *testing.T) {
	for size := 513; size < 700; size++ {
		l, n := sized(size)
		corrupt(t, spell(l)[:512])
		corrupt(t, spell(n)[:512])
		corrupt(t, spell(l))
		corrupt(t, spell(n))
	}
	corrupt(t, strings.Repeat("\x01", 512))
	corrupt(t, strings.Repeat("\x02", 512))
}

// Promise 16.1, P1: any bytes, and any bytes behind the start of a node.
func TestReadAnyBytes(t *testing.T) {
	r := &sample{4}
	found := 0
	for i := range 30000 {
		s := r.bytes(r.below(3))
		switch i % 3 {
		case 0:
			s = "\x01\x00" + string([]byte{byte(r.below(5))}) + r.bytes(r.below(20))
		case 1:
			s = "\x02\x00" + string([]byte{byte(r.below(3))}) + four(r.below(2100)) + four(2+r.below(2100)) + four(2+r.below(10)) + r.bytes(r.below(8))
		}
		readsAs(t, s)
		readsAs(t, filled(s))
		readsAs(t, filled(s + r.bytes(512))[:512])
		if _, ok := parse(filled(s)); ok {
			found++
		}
	}
	if found < 100 {
		t.Errorf("only %d were pages of nodes", found)
	}
	for _, b := range []string{"\x00", "\x01", "\x02", "\x80", "\xff"} {
		for _, size := range []int{0, 1, 2, 3, 7, 511, 512, 513, 1024, 1 << 20} {
			corrupt(t, strings.Repeat(b, size))
			corrupt(t, "\x01\xff\xff"+strings.Repeat(b, size))
			corrupt(t, "\x02\xff\xff"+strings.Repeat(b, size))
		}
	}
}

// Promise 16.1: what was read is not shared with what is read again.
func TestReadSharesNothing(t *testing.T) {
	for _, s := range somePages() {
		want := nodeOf(t, s)
		first, _ := Read(s)
		again, _ := Read(s)
		spoil(first)
		if !same(again, want) {
			t.Errorf("a node has changed to %s, want %s", told(again), told(want))
		}
		reads(t, s, want)
	}
}

// spoil changes all of the lists of a node, and what is behind them.
func spoil(n Node) {
	for i := range n.Cells {
		n.Cells[i] = Cell{"spoilt", -1, "spoilt", -1}
	}
	for i := range n.Kids {
		n.Kids[i] = -1
	}
	_ = append(n.Cells, Cell{"spoilt", -1, "spoilt", -1})
	_ = append(n.Kids, -1)
}
