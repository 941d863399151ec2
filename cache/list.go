package cache

// list is a doubly linked list.
type list[T any] struct {
	first, last *element[T]
	length      int
}

// element is an element of at most one list.
type element[T any] struct {
	value         T
	before, after *element[T]
}

// add makes an element, which is in no list, the last one.
func (l *list[T]) add(e *element[T]) {
	if l.last == nil {
		l.first = e
	} else {
		l.last.after = e
	}
	e.before = l.last
	l.last = e
	l.length++
}

// remove takes an element out of the list.
func (l *list[T]) remove(e *element[T]) {
	if e.before == nil {
		l.first = e.after
	} else {
		e.before.after = e.after
	}
	if e.after == nil {
		l.last = e.before
	} else {
		e.after.before = e.before
	}
	e.before, e.after = nil, nil
	l.length--
}
