package batch

import (
	"math"
	"slices"
	"sync/atomic"
	"testing"
	"testing/synctest"

	"stook/api"
	"stook/vocab"
)

// How many work at once shows in no answer. In the bubbles of synctest it can be told: there one can wait till all that go
// on stand still. And a bubble ends with a panic if somebody is left in it who waits for ever.

// doneAtOnce: that of n places so many are worked at once, and each one but once.
func doneAtOnce(t *testing.T, n, workers, want int) {
	t.Helper()
	synctest.Test(t, func(t *testing.T) {
		var begun, ended atomic.Int64
		goOn := make(chan struct{})
		go func() {
			synctest.Wait()
			if got := begun.Load(); got != int64(want) {
				t.Errorf("%d places, %d workers: %d work at once, not %d", n, workers, got, want)
			}
			close(goOn)
		}()
		times := make([]atomic.Int64, n)
		all := atAll(n, workers, func(place int) told[int] {
			begun.Add(1)
			<-goOn
			times[place].Add(1)
			ended.Add(1)
			return told[int]{place, []int{place}, api.Errno(place % 3)}
		})
		if len(all) != n || ended.Load() != int64(n) {
			t.Errorf("%d places, %d workers: %d told, %d done", n, workers, len(all), ended.Load())
		}
		for place, got := range all {
			if got.place != place || !slices.Equal(got.out, []int{place}) || got.e != api.Errno(place%3) || times[place].Load() != 1 {
				t.Errorf("%d places, %d workers: at %d is told %+v, after %d times", n, workers, place, got, times[place].Load())
			}
		}
	})
}

func TestP11_1WorkersAre1To16(t *testing.T) {
	for _, c := range []struct{ workers, want int }{
		{math.MinInt, 1}, {-1 << 32, 1}, {-17, 1}, {-1, 1}, {0, 1}, {1, 1}, {2, 2}, {3, 3}, {8, 8}, {15, 15}, {16, 16},
		{17, 16}, {18, 16}, {99, 16}, {1 << 32, 16}, {math.MaxInt, 16},
	} {
		for _, n := range []int{0, 1, 2, 5, 16, 17, 40, 1024} {
			doneAtOnce(t, n, c.workers, min(n, c.want))
		}
	}
}

// Whichever of them ends first: each order in which four rows may come to their ends, with each choice of those that are
// refused, and by which error.
func TestP11_1And3NoMatterWhoEndsFirst(t *testing.T) {
	outcomes := []api.Errno{api.OK, api.ErrArg, api.ErrLimit}
	for _, order := range orders(4) {
		for choice := range 81 {
			var ends []api.Errno
			for c := choice; len(ends) < 4; c /= 3 {
				ends = append(ends, outcomes[c%3])
			}
			endInOrder(t, order, ends)
		}
	}
}

// orders: each order of n places.
func orders(n int) [][]int {
	if n == 0 {
		return [][]int{nil}
	}
	var all [][]int
	for _, order := range orders(n - 1) {
		for at := range n {
			all = append(all, slices.Insert(slices.Clone(order), at, n-1))
		}
	}
	return all
}

// endInOrder: that rows that come to these ends, one behind the other in this order, are answered in their own order, or
// the first one's error is.
func endInOrder(t *testing.T, order []int, ends []api.Errno) {
	t.Helper()
	synctest.Test(t, func(t *testing.T) {
		var list [][]int
		var turns []chan struct{}
		for place := range ends {
			list = append(list, []int{place})
			turns = append(turns, make(chan struct{}))
		}
		go func() {
			for _, place := range order {
				synctest.Wait()
				close(turns[place])
			}
		}()
		outs, at, e := each(vocab.Plain(), list, len(list), func(_ api.Vocab, row []int) ([]int, api.Errno) {
			<-turns[row[0]]
			return slices.Clone(row), ends[row[0]]
		})
		wantAt := slices.IndexFunc(ends, func(e api.Errno) bool { return e != api.OK })
		if wantAt < 0 {
			if !slices.EqualFunc(outs, list, slices.Equal) || at != 0 || e != api.OK {
				t.Errorf("in order %d: %d, %d, %v", order, outs, at, e)
			}
		} else if len(outs) != 0 || at != wantAt || e != ends[wantAt] {
			t.Errorf("in order %d, ends %d: %d, %d, %v", order, ends, outs, at, e)
		}
	})
}
