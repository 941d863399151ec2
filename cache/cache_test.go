package cache

import (
	"slices"
	"strconv"
	"strings"
	"testing"

	"annexe/api"
)

const (
	least    = -1 << 63
	greatest = 1<<63 - 1
)

// has requires that Get returns the contents of a page. It uses the page.
func has(t *testing.T, c *Cache, n int, want string) {
	t.Helper()
	if s, ok := c.Get(n); s != want || !ok {
		t.Errorf("Get(%d) = %.40q, %v, want %.40q", n, s, ok, want)
	}
}

// hasNot requires that Get returns false, and nothing beside it.
func hasNot(t *testing.T, c *Cache, numbers ...int) {
	t.Helper()
	for _, n := range numbers {
		if s, ok := c.Get(n); s != "" || ok {
			t.Errorf("Get(%d) = %.40q, %v", n, s, ok)
		}
	}
}

// counts requires that Len returns a number, and Dirty these pages.
func counts(t *testing.T, c *Cache, n int, dirty ...int) {
	t.Helper()
	if c.Len() != n {
		t.Errorf("Len() = %d, want %d", c.Len(), n)
	}
	if l := c.Dirty(); !slices.Equal(l, dirty) {
		t.Errorf("Dirty() = %v, want %v", l, dirty)
	}
}

// filled returns a cache into which clean pages have been put, in this order;
// the contents of a page are its number.
func filled(room int, numbers ...int) *Cache {
	c := New(room)
	for _, n := range numbers {
		c.Put(n, strconv.Itoa(n), false)
	}
	return c
}

// goes requires that further clean pages, which get the numbers from 1000 on,
// displace the pages of a full cache in this order, and until then do not. It
// looks into the map, since Get would use the pages.
func goes(t *testing.T, what string, c *Cache, gone ...int) {
	t.Helper()
	size := c.Len()
	for i, n := range gone {
		if c.pages[n] == nil {
			t.Errorf("%s: %d is not cached before its turn", what, n)
		}
		c.Put(1000+i, "", false)
		if c.pages[n] != nil {
			t.Errorf("%s: %d is still cached", what, n)
		}
		if c.Len() != size {
			t.Errorf("%s: %d pages, want %d", what, c.Len(), size)
		}
	}
}

// The example of the chapter.
func TestExample(t *testing.T) {
	c := New(1)
	c.Put(1, "a", false)
	c.Put(2, "b", false)
	hasNot(t, c, 1)
	has(t, c, 2, "b")
	counts(t, c, 1)
}

// Promise 12.1: an empty cache, whatever the capacity.
func TestNew(t *testing.T) {
	for _, room := range []int{least, -12, -1, 0, 1, 2, api.CacheSize, 1 << 31, 1 << 32, greatest} {
		c := New(room)
		if c == nil {
			t.Fatalf("New(%d) = nil", room)
		}
		counts(t, c, 0)
		hasNot(t, c, 0, 1, 2, -1, least, greatest)
	}
	a, b := New(2), New(2)
	a.Put(1, "a", true)
	counts(t, b, 0)
	hasNot(t, b, 1)
}

// Promises 12.1 and 12.2: so many clean pages stay, the most recently used ones.
func TestCapacity(t *testing.T) {
	for _, x := range []struct{ room, want int }{
		{least, 1}, {-1 << 32, 1}, {-2, 1}, {-1, 1}, {0, 1}, {1, 1}, {2, 2}, {3, 3}, {api.CacheSize, api.CacheSize}, {99, 99}, {100, 100}, {101, 100}, {1 << 31, 100}, {1 << 32, 100}, {1<<32 + 1, 100}, {greatest, 100},
	} {
		c := New(x.room)
		for n := 1; n <= 100; n++ {
			c.Put(n, strconv.Itoa(n), false)
			counts(t, c, min(n, x.want))
		}
		for n := 1; n <= 100; n++ {
			if n <= 100-x.want {
				hasNot(t, c, n)
			} else {
				has(t, c, n, strconv.Itoa(n))
			}
		}
	}
}

// Promise 12.2: nothing is cached for a nil *Cache, and no call has an effect.
func TestNil(t *testing.T) {
	var c *Cache
	for _, n := range []int{least, -1, 0, 1, 2, 2000, greatest} {
		c.Put(n, "a", false)
		c.Put(n, "a", true)
		c.Put(n, "", true)
		c.Clean(n)
		hasNot(t, c, n)
		counts(t, c, 0)
		c.Drop(n)
	}
	if c != nil || c.Dirty() != nil {
		t.Errorf("it is no longer nil, or Dirty is not")
	}
}

// Promise 12.2: calls of an empty cache.
func TestEmpty(t *testing.T) {
	for _, c := range []*Cache{New(0), New(1), New(12), filled(3)} {
		for _, n := range []int{least, -1, 0, 1, 2, 2000, greatest} {
			hasNot(t, c, n)
			c.Clean(n)
			c.Drop(n)
			counts(t, c, 0)
		}
		c.Put(1, "a", true)
		c.Drop(1)
		hasNot(t, c, 1)
		c.Clean(1)
		counts(t, c, 0)
		c.Put(1, "b", false)
		has(t, c, 1, "b")
		counts(t, c, 1)
	}
}

// Promise P1: a Cache that New has not made is an empty one as well, for one
// clean page.
func TestZero(t *testing.T) {
	var c Cache
	hasNot(t, &c, 0, 1)
	counts(t, &c, 0)
	c.Clean(1)
	c.Drop(least)
	c.Put(1, "a", true)
	c.Put(2, "b", false)
	c.Put(3, "c", false)
	hasNot(t, &c, 2)
	has(t, &c, 1, "a")
	has(t, &c, 3, "c")
	counts(t, &c, 2, 1)
	c.Drop(least)
	counts(t, &c, 0)
}

// Promise P1: calls of a copy of a Cache, in between.
func TestCopy(t *testing.T) {
	c := filled(2, 1, 2)
	d := *c
	for n := range 20 {
		c.Put(n, "c", n%2 == 0)
		d.Put(n+3, "d", n%3 == 0)
		d.Clean(n - 2)
		c.Clean(n - 5)
	}
	d.Drop(15)
	c.Drop(5)
	d.Drop(least)
	c.Put(1, "a", false)
	has(t, c, 1, "a")
}

// Promise 12.2: Put over a page that is cached already.
func TestPutReplaces(t *testing.T) {
	c := New(2)
	c.Put(1, "a", false)
	c.Put(1, "b", false)
	has(t, c, 1, "b")
	counts(t, c, 1)
	c.Put(1, "c", true)
	has(t, c, 1, "c")
	counts(t, c, 1, 1)
	c.Put(1, "d", true)
	has(t, c, 1, "d")
	counts(t, c, 1, 1)
	c.Put(1, "e", false)
	has(t, c, 1, "e")
	counts(t, c, 1)
	c.Put(1, "e", true)
	has(t, c, 1, "e")
	counts(t, c, 1, 1)
	c.Put(1, "e", false)
	counts(t, c, 1)
}

// Promise 12.2: Put of a clean page over a dirty one takes a place among the
// clean ones; of a dirty one over a clean one gives it back.
func TestPutChangesState(t *testing.T) {
	c := filled(2, 1, 2)
	c.Put(3, "c", true)
	counts(t, c, 3, 3)
	c.Put(3, "d", false)
	counts(t, c, 2)
	hasNot(t, c, 1)
	has(t, c, 2, "2")
	has(t, c, 3, "d")

	c = filled(2, 1, 2)
	c.Put(1, "a", true)
	c.Put(3, "3", false)
	counts(t, c, 3, 1)
	has(t, c, 1, "a")
	has(t, c, 2, "2")
	c.Put(4, "4", false)
	hasNot(t, c, 3)
	c.Put(1, "b", false)
	hasNot(t, c, 2)
	has(t, c, 1, "b")
	has(t, c, 4, "4")
	counts(t, c, 2)

	c = filled(1, 1)
	c.Put(1, "a", true)
	c.Put(2, "b", true)
	c.Put(2, "c", false)
	has(t, c, 1, "a")
	c.Put(1, "d", false)
	hasNot(t, c, 2)
	has(t, c, 1, "d")
	counts(t, c, 1)
}

// Definitions: without further uses, pages go in the order in which they were put.
func TestOrderOfPut(t *testing.T) {
	goes(t, "put once", filled(3, 5, 1, 3), 5, 1, 3)
	goes(t, "the first put again", filled(3, 5, 1, 3, 5), 1, 3, 5)
	goes(t, "the second put again", filled(3, 5, 1, 3, 1), 5, 3, 1)
	goes(t, "the last put again", filled(3, 5, 1, 3, 3), 5, 1, 3)
	goes(t, "all put again", filled(3, 5, 1, 3, 3, 1, 5), 3, 1, 5)
	goes(t, "more than the capacity", filled(3, 7, 5, 1, 3), 5, 1, 3)
	c := filled(3, 5, 1, 3)
	c.Put(5, "other", false)
	goes(t, "other contents", c, 1, 3, 5)
	c = filled(3, 5, 1, 3)
	c.Put(5, "other", true)
	c.Put(5, "5", false)
	goes(t, "dirty, and clean again", c, 1, 3, 5)
	c = filled(3, 5, 1, 3)
	c.Put(9, "dirty", true)
	goes(t, "a dirty page", c, 5, 1, 3)
}

// Definitions: Get uses a page that is cached.
func TestOrderOfGet(t *testing.T) {
	for _, x := range []struct{ used, want []int }{
		{nil, []int{5, 1, 3}},
		{[]int{5}, []int{1, 3, 5}},
		{[]int{1}, []int{5, 3, 1}},
		{[]int{3}, []int{5, 1, 3}},
		{[]int{5, 1}, []int{3, 5, 1}},
		{[]int{3, 1, 5}, []int{3, 1, 5}},
		{[]int{5, 5, 1, 5}, []int{3, 1, 5}},
		{[]int{2, 0, -5, 4, greatest}, []int{5, 1, 3}},
		{[]int{2, 5, 2}, []int{1, 3, 5}},
	} {
		c := filled(3, 5, 1, 3)
		for _, n := range x.used {
			c.Get(n)
		}
		counts(t, c, 3)
		goes(t, "after Get", c, x.want...)

		// Of dirty pages, too, before and after; their use does not count for the others.
		c = filled(3, 5, 1, 3)
		c.Put(8, "8", true)
		c.Get(8)
		for _, n := range x.used {
			c.Get(n)
			c.Get(8)
		}
		counts(t, c, 4, 8)
		goes(t, "after Get, with a dirty page", c, x.want...)
	}
}

// Definitions: Clean uses a page, whether it was dirty or clean.
func TestOrderOfClean(t *testing.T) {
	for _, x := range []struct{ used, want []int }{
		{[]int{5}, []int{1, 3, 5}},
		{[]int{1}, []int{5, 3, 1}},
		{[]int{3}, []int{5, 1, 3}},
		{[]int{3, 1, 5}, []int{3, 1, 5}},
		{[]int{5, 5, 1, 5}, []int{3, 1, 5}},
		{[]int{2, 0, -5, 4, greatest}, []int{5, 1, 3}},
	} {
		c := filled(3, 5, 1, 3)
		for _, n := range x.used {
			c.Clean(n)
		}
		counts(t, c, 3)
		goes(t, "after Clean of clean pages", c, x.want...)
	}
	c := New(3)
	for _, n := range []int{5, 1, 3} {
		c.Put(n, strconv.Itoa(n), true)
	}
	for _, n := range []int{3, 5, 1} {
		c.Clean(n)
	}
	counts(t, c, 3)
	goes(t, "after Clean of dirty pages", c, 3, 5, 1)
}

// Definitions: Dirty, Len and Drop use nothing, nor do calls of pages that
// are not cached.
func TestNotUsed(t *testing.T) {
	c := filled(3, 5, 1, 3)
	for range 5 {
		c.Dirty()
		c.Len()
		c.Drop(6)
		c.Get(2)
		c.Clean(2)
	}
	counts(t, c, 3)
	goes(t, "after calls that use nothing", c, 5, 1, 3)
	c = filled(4, 5, 9, 1, 3)
	c.Drop(9)
	c.Put(2, "2", false)
	goes(t, "after Drop of one of them", c, 5, 1, 3, 2)
}

// Definitions: a page that was put first and is made clean last is the most
// recently used one.
func TestCleanIsAUse(t *testing.T) {
	c := New(2)
	c.Put(1, "a", true)
	c.Put(2, "b", false)
	c.Put(3, "c", false)
	c.Clean(1)
	hasNot(t, c, 2)
	goes(t, "after Clean", c, 3, 1)
}

// Promise 12.2: Clean while the clean pages fill the capacity removes the
// least recently used one, never the page itself.
func TestCleanAtCapacity(t *testing.T) {
	for room := 1; room <= 4; room++ {
		c := New(room)
		for n := 100; n < 110; n++ {
			c.Put(n, strconv.Itoa(n), true)
		}
		for n := range room {
			c.Put(n, strconv.Itoa(n), false)
		}
		counts(t, c, room+10, 100, 101, 102, 103, 104, 105, 106, 107, 108, 109)
		for i := range room {
			c.Clean(100 + i)
			hasNot(t, c, i)
			if c.Len() != room+9-i {
				t.Errorf("Len() = %d, want %d", c.Len(), room+9-i)
			}
		}
		for i := range room {
			has(t, c, 100+i, strconv.Itoa(100+i))
		}
		c.Clean(109)
		hasNot(t, c, 100)
		has(t, c, 109, "109")
		for i := room; i < 9; i++ {
			has(t, c, 100+i, strconv.Itoa(100+i))
		}
	}
}

// Promise 12.2: Clean of a page that is clean, or not cached, changes no page.
func TestCleanChangesNoPage(t *testing.T) {
	c := filled(2, 1, 2)
	c.Put(3, "c", true)
	for _, n := range []int{1, 2, 4, 0, -3, least, greatest, 1, 1} {
		c.Clean(n)
		counts(t, c, 3, 3)
	}
	has(t, c, 1, "1")
	has(t, c, 2, "2")
	has(t, c, 3, "c")
}

// Promise 12.3: more dirty pages than the capacity; none of them goes, whatever
// clean pages come.
func TestDirtyStays(t *testing.T) {
	for _, room := range []int{-1, 0, 1, 2, 12, greatest} {
		c := New(room)
		var want []int
		for n := 1; n <= 300; n++ {
			c.Put(n, strconv.Itoa(n), true)
			want = append(want, n)
			counts(t, c, n, want...)
		}
		for n := 301; n <= 600; n++ {
			c.Put(n, "clean", false)
			c.Get(n)
			c.Clean(n)
		}
		counts(t, c, 300+max(1, min(room, 300)), want...)
		for n := 1; n <= 300; n++ {
			has(t, c, n, strconv.Itoa(n))
		}
		for n := 1; n <= 300; n++ {
			c.Clean(n)
			counts(t, c, 300-n+max(1, min(room, 300+n)), want[n:]...)
			has(t, c, n, strconv.Itoa(n))
		}
	}
}

// Promise 12.2: Dirty is in increasing order, whatever the order of the calls.
func TestDirtyOrder(t *testing.T) {
	l := []int{7, least, 3, 0, greatest, -1, 12, -300, 1 << 32, 2, -1 << 32, 1}
	want := slices.Sorted(slices.Values(l))
	for range len(l) {
		l = append(l[1:], l[0])
		for _, order := range [][]int{l, slices.Sorted(slices.Values(l)), backward(l), backward(want)} {
			c := New(2)
			for _, n := range order {
				c.Put(n, "x", true)
			}
			counts(t, c, len(l), want...)
			for _, n := range backward(order) {
				c.Get(n)
				c.Put(n, "y", true)
			}
			counts(t, c, len(l), want...)
			c.Clean(order[5])
			c.Put(order[6], "z", false)
			c.Put(order[5], "z", true)
			without := slices.DeleteFunc(slices.Clone(want), func(n int) bool { return n == order[6] })
			counts(t, c, len(l), without...)
		}
	}
}

// backward returns the numbers of a list from the last one to the first.
func backward(l []int) []int {
	l = slices.Clone(l)
	slices.Reverse(l)
	return l
}

// Promise 12.2: Drop from a number below, among and above the cached ones.
func TestDrop(t *testing.T) {
	numbers := []int{greatest, 9, 5, 4, 1, 0, -2, least}
	for _, from := range []int{least, least + 1, -100, -3, -2, -1, 0, 1, 2, 3, 4, 5, 6, 8, 9, 10, 1 << 32, greatest - 1, greatest} {
		for mask := range 3 {
			c := New(len(numbers))
			size, dirty := 0, []int{}
			for i, n := range numbers {
				c.Put(n, strconv.Itoa(n), i%3 == mask)
				if n < from {
					size++
				}
				if n < from && i%3 == mask {
					dirty = append(dirty, n)
				}
			}
			c.Drop(from)
			slices.Sort(dirty)
			counts(t, c, size, dirty...)
			for _, n := range numbers {
				if n < from {
					has(t, c, n, strconv.Itoa(n))
				} else {
					hasNot(t, c, n)
				}
			}
			c.Drop(from)
			counts(t, c, size, dirty...)
		}
	}
}

// Promise 12.2: what Drop removed takes no place any more, and can be put again.
func TestDropMakesRoom(t *testing.T) {
	c := filled(3, 1, 2, 3)
	c.Drop(2)
	c.Put(4, "4", false)
	c.Put(5, "5", false)
	counts(t, c, 3)
	has(t, c, 1, "1")
	has(t, c, 4, "4")
	has(t, c, 5, "5")
	c.Put(2, "again", true)
	c.Put(3, "again", false)
	hasNot(t, c, 1)
	has(t, c, 2, "again")
	has(t, c, 3, "again")
	counts(t, c, 4, 2)
	c.Drop(least)
	counts(t, c, 0)
	hasNot(t, c, 1, 2, 3, 4, 5)
	c.Clean(2)
	counts(t, c, 0)
	for n := 1; n <= 4; n++ {
		c.Put(n, strconv.Itoa(n), false)
	}
	counts(t, c, 3)
	goes(t, "after Drop of everything", c, 2, 3, 4)
}

// Promise 12.2: any number is the number of a page.
func TestNumbers(t *testing.T) {
	numbers := []int{0, -1, 1, least, greatest, -1 << 32, 1 << 32, 1<<32 + 1, -2000, 2001}
	c, d := New(len(numbers)), New(1)
	for _, n := range numbers {
		c.Put(n, strconv.Itoa(n), false)
		d.Put(n, strconv.Itoa(n), true)
	}
	for _, n := range numbers {
		has(t, c, n, strconv.Itoa(n))
		has(t, d, n, strconv.Itoa(n))
	}
	hasNot(t, c, 2, -2, least+1, greatest-1)
	counts(t, c, len(numbers))
	for i, n := range numbers {
		d.Clean(n)
		if len(d.Dirty()) != len(numbers)-1-i {
			t.Errorf("Clean(%d): %v", n, d.Dirty())
		}
		has(t, d, n, strconv.Itoa(n))
	}
	counts(t, d, 1)
}

// Promise 12.2: contents of any length and of any bytes; the empty string is
// cached like any other.
func TestContents(t *testing.T) {
	l := []string{"", "\x00", "\xff\xfe", "a", strings.Repeat("x", api.PageSize), strings.Repeat("\x00", api.PageSize+1), strings.Repeat("long", 1<<20)}
	for _, dirty := range []bool{false, true} {
		c := New(len(l))
		for n, s := range l {
			c.Put(n, s, dirty)
		}
		for n, s := range l {
			has(t, c, n, s)
			c.Clean(n)
			has(t, c, n, s)
		}
		counts(t, c, len(l))
		for _, s := range l {
			c.Put(0, s, dirty)
			has(t, c, 0, s)
			c.Put(0, "", dirty)
			has(t, c, 0, "")
		}
	}
	c := New(1)
	c.Put(1, "", false)
	has(t, c, 1, "")
	c.Put(2, "", false)
	hasNot(t, c, 1)
	counts(t, c, 1)
	c.Put(1, "", true)
	counts(t, c, 2, 1)
}

// DOC.md, Rules: what Dirty returns is shared with nothing.
func TestDirtyNotShared(t *testing.T) {
	c := New(2)
	for n := range 5 {
		c.Put(n, "x", true)
	}
	l := c.Dirty()
	k := c.Dirty()
	clear(l)
	_ = append(l[:1], 99)
	counts(t, c, 5, 0, 1, 2, 3, 4)
	c.Clean(0)
	c.Drop(3)
	if !slices.Equal(k, []int{0, 1, 2, 3, 4}) {
		t.Errorf("what Dirty returned has changed: %v", k)
	}
	counts(t, c, 3, 1, 2)
}

// Promise P1: many pages.
func TestMany(t *testing.T) {
	c := New(1000)
	for n := range 1 << 18 {
		c.Put(n, "x", n%2 == 0)
	}
	counts(t, c, 1<<17+1000, c.Dirty()...)
	if len(c.Dirty()) != 1<<17 {
		t.Errorf("%d dirty pages", len(c.Dirty()))
	}
	for n := range 1 << 18 {
		c.Clean(n)
	}
	counts(t, c, 1000)
	c.Drop(0)
	counts(t, c, 0)
}
