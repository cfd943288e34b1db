package batch

import (
	"sync"

	"stook/api"
)

const (
	leastWorkers = 1
	mostWorkers  = 16
)

// told is what a worker came to, and at which place.
type told[Out any] struct {
	place int
	out   []Out
	e     api.Errno
}

// atAll answers what work comes to at each of the first n places, in their order, done by so many workers at once.
func atAll[Out any](n, workers int, work func(place int) told[Out]) []told[Out] {
	places, tell, ended := handOut(n), make(chan told[Out]), make(chan struct{})
	var working sync.WaitGroup
	for range min(max(workers, leastWorkers), mostWorkers) {
		working.Add(1)
		go func() {
			defer working.Done()
			for place := range places {
				tell <- work(place)
			}
		}()
	}
	go func() {
		working.Wait()
		close(ended)
	}()
	return gather(n, tell, ended)
}

// handOut answers a channel of the first n places. It has room for all of them, so that nobody need stand by to send them.
func handOut(n int) <-chan int {
	places := make(chan int, n)
	for place := range n {
		places <- place
	}
	close(places)
	return places
}

// gather answers what is told of each of the first n places, once all have ended. A worker has ended only when what it told
// was taken, so that nothing is left to take by then; and what was told first doesn't show.
func gather[Out any](n int, tell <-chan told[Out], ended <-chan struct{}) []told[Out] {
	all := make([]told[Out], n)
	for {
		select {
		case t := <-tell:
			all[t.place] = t
		case <-ended:
			return all
		}
	}
}
