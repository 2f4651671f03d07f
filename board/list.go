package board

import "iter"

// list is a doubly linked list: an element in its midst can leave at once, whatever its length.
type list[T any] struct {
	first, last *link[T]
	count       int
}

// link is an element of a list.
type link[T any] struct {
	value      T
	prev, next *link[T]
}

// push puts an element at the end.
func (l *list[T]) push(x *link[T]) {
	x.prev, x.next = l.last, nil
	if l.last == nil {
		l.first = x
	} else {
		l.last.next = x
	}
	l.last = x
	l.count++
}

// remove takes an element of the list out.
func (l *list[T]) remove(x *link[T]) {
	if x.prev == nil {
		l.first = x.next
	} else {
		x.prev.next = x.next
	}
	if x.next == nil {
		l.last = x.prev
	} else {
		x.next.prev = x.prev
	}
	l.count--
}

// all yields the values, the first one first.
func (l *list[T]) all() iter.Seq[T] {
	return func(yield func(T) bool) {
		for x := l.first; x != nil; x = x.next {
			if !yield(x.value) {
				return
			}
		}
	}
}
