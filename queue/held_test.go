package queue

import "testing"

// What went out is not held any more, so that something great may be let go while the queue goes on.
func TestP7_2WhatIsPoppedIsNotHeld(t *testing.T) {
	q := New(func(a, b *int) bool { return *a < *b })
	for round := range 5 {
		for i := range 20 {
			n := (i*7 + round) % 20
			q.Push(&n)
		}
		for range 10 + 3*round {
			q.Pop()
		}
		for i, behind := range q.heap[len(q.heap):cap(q.heap)] {
			if behind.thing != nil {
				t.Fatalf("behind %d in the heap %d is held at %d", q.Len(), *behind.thing, i)
			}
		}
	}
}
