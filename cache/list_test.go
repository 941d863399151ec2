package cache

import (
	"slices"
	"testing"
)

// forward returns the values of a list from its first element on.
func forward[T any](l *list[T]) []T {
	var values []T
	for e := l.first; e != nil; e = e.after {
		values = append(values, e.value)
	}
	return values
}

// sound reports whether a list is the same from both ends, and as long as it
// says.
func sound[T any](l *list[T]) bool {
	n := 0
	var before *element[T]
	for e := l.first; e != nil; e = e.after {
		if e.before != before {
			return false
		}
		before = e
		n++
	}
	return l.last == before && l.length == n
}

// The elements of a list are in the order in which they were added, whichever
// of them are removed, and in whichever order.
func TestList(t *testing.T) {
	for first := range 4 {
		for second := range 4 {
			var l list[int]
			var elements []*element[int]
			want := []int{}
			for i := range 4 {
				e := &element[int]{value: i}
				elements = append(elements, e)
				want = append(want, i)
				l.add(e)
			}
			for _, i := range []int{first, second} {
				at := slices.Index(want, i)
				if at < 0 {
					continue
				}
				l.remove(elements[i])
				want = slices.Delete(want, at, at+1)
				if !sound(&l) || !slices.Equal(forward(&l), want) {
					t.Errorf("without %d and %d: %v, want %v", first, second, forward(&l), want)
				}
				if elements[i].before != nil || elements[i].after != nil {
					t.Errorf("%d still has neighbours", i)
				}
			}
			l.add(elements[first])
			if want = append(want, first); !sound(&l) || !slices.Equal(forward(&l), want) {
				t.Errorf("with %d again: %v, want %v", first, forward(&l), want)
			}
		}
	}
}

// A list of one element is empty when that is removed, and can be used again.
func TestListOfOne(t *testing.T) {
	var l list[string]
	e := &element[string]{value: "a"}
	for range 3 {
		if !sound(&l) || l.length != 0 {
			t.Errorf("empty: %v", forward(&l))
		}
		l.add(e)
		if !sound(&l) || !slices.Equal(forward(&l), []string{"a"}) {
			t.Errorf("one: %v", forward(&l))
		}
		l.remove(e)
	}
}
