package node

import (
	"fmt"
	"math"
	"strings"
	"testing"
)

// finds requires that Find returns a place, and whether the key is there.
func finds(t *testing.T, n Node, key string, place int, there bool) {
	t.Helper()
	before := copied(n)
	if k, is := Find(n, key); k != place || is != there {
		t.Errorf("Find(%q) = %d, %v, want %d, %v: %s", key, k, is, place, there, told(n))
	}
	if !same(n, before) {
		t.Errorf("Find has changed %s to %s", told(before), told(n))
	}
}

// lesser counts the keys that are less, by the words of 16.2.
func lesser(n Node, key string) (int, bool) {
	count, equal := 0, 0
	for _, c := range n.Cells {
		if c.Key < key {
			count++
		}
		if c.Key == key {
			equal++
		}
	}
	return count, equal > 0
}

// Promise 16.2: keys before all, between two, equal to one, and behind all.
func TestFind(t *testing.T) {
	l := leaf(short("b", "x"), long("d", 61, 2), short("f", ""))
	for _, n := range []Node{l, inner("b", "d", "f")} {
		for _, c := range []struct {
			key   string
			place int
			there bool
		}{
			{"", 0, false}, {"\x00", 0, false}, {"a", 0, false}, {"B", 0, false}, {"azz", 0, false},
			{"b", 0, true}, {"b\x00", 1, false}, {"bb", 1, false}, {"c", 1, false}, {"c\xff\xff", 1, false},
			{"d", 1, true}, {"dd", 2, false}, {"e", 2, false},
			{"f", 2, true}, {"f\x00", 3, false}, {"g", 3, false}, {"é", 3, false}, {"\xff", 3, false}, {strings.Repeat("z", 1000), 3, false},
		} {
			finds(t, n, c.key, c.place, c.there)
		}
	}
}

// Promise 16.2: nodes without cells, and with the empty key.
func TestFindInFew(t *testing.T) {
	for _, key := range []string{"", "\x00", "a", strings.Repeat("k", 101)} {
		for _, n := range []Node{{}, leaf(), inner(), {Leaf: true, Cells: []Cell{}}} {
			finds(t, n, key, 0, false)
		}
	}
	for _, n := range []Node{leaf(short("", "")), inner("")} {
		finds(t, n, "", 0, true)
		finds(t, n, "\x00", 1, false)
		finds(t, n, "a", 1, false)
	}
	finds(t, inner("", "\x00"), "", 0, true)
	finds(t, inner("", "\x00"), "\x00", 1, true)
	finds(t, inner("", "\x00"), "\x00\x00", 2, false)
}

// Promise 16.2: all keys of nodes, and keys that are almost equal to them.
func TestFindInMany(t *testing.T) {
	for _, n := range nodes(5, 500) {
		for _, c := range n.Cells {
			for _, key := range []string{c.Key, c.Key + "\x00", c.Key + "\xff", c.Key[:len(c.Key)/2], strings.ToUpper(c.Key)} {
				place, there := lesser(n, key)
				finds(t, n, key, place, there)
			}
			if _, there := Find(n, c.Key); !there {
				t.Errorf("Find(%q) has not found it: %s", c.Key, told(n))
			}
		}
	}
}

// Promise 16.2: the node need not be valid, as long as its keys increase.
func TestFindInInvalid(t *testing.T) {
	long := strings.Repeat("k", 200)
	n := Node{Leaf: true, Cells: []Cell{{Key: "a", Len: -1}, {Key: "b", Over: -1}, {Key: long, Local: "x"}}, Kids: []int{0, math.MinInt64}}
	for _, isLeaf := range []bool{true, false} {
		n.Leaf = isLeaf
		finds(t, n, "", 0, false)
		finds(t, n, "b", 1, true)
		finds(t, n, "c", 2, false)
		finds(t, n, long, 2, true)
		finds(t, n, long+"k", 3, false)
	}
	many := numbered(true, 70000)
	for i := 0; i < 70000; i += 7777 {
		key := fmt.Sprintf("%05d", i)
		finds(t, many, key, i, true)
		finds(t, many, key+"\x00", i+1, false)
		finds(t, many, key[:4], i/10*10, false)
	}
}

// P1: keys that do not increase. Nothing is promised of the place, but that there is one.
func TestFindUnordered(t *testing.T) {
	_, other := ordered()
	for _, keys := range other {
		n := inner(keys...)
		for _, key := range append(keys, "", "b", "\xff") {
			if k, is := Find(n, key); k < 0 || k > len(keys) || is && (k == len(keys) || keys[k] != key) {
				t.Errorf("Find(%q) = %d, %v: %s", key, k, is, told(n))
			}
		}
	}
}
