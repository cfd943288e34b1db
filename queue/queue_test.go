package queue_test

import (
	"cmp"
	"fmt"
	"math"
	"slices"
	"testing"

	"stook/api"
	"stook/draw"
	"stook/queue"
)

// card: a thing of which less looks at the key alone, so that the name tells which of two equal ones it is.
type card struct{ key, name int }

func byKey(a, b card) bool     { return a.key < b.key }
func byKeyDown(a, b card) bool { return a.key > b.key }
func byTens(a, b card) bool    { return a.key%10 < b.key%10 }
func byNothing(a, b card) bool { return false }

// orders: orders with few and with many ties.
func orders() map[string]func(a, b card) bool {
	return map[string]func(a, b card) bool{"up": byKey, "down": byKeyDown, "tens": byTens, "all alike": byNothing}
}

func tens(a, b int) bool { return a%10 < b%10 }

// said: a queue as the words say it, a list in the order of the pushes.
type said struct {
	less func(a, b card) bool
	in   []card
}

// first: the place of the one that is ahead of all others.
func (s *said) first() (int, bool) {
	for i := range s.in {
		ahead := true
		for k := range s.in {
			tie := !s.less(s.in[i], s.in[k]) && !s.less(s.in[k], s.in[i])
			ahead = ahead && (k == i || s.less(s.in[i], s.in[k]) || tie && i < k)
		}
		if ahead {
			return i, true
		}
	}
	return 0, false
}

func (s *said) peek() (card, bool) {
	i, ok := s.first()
	if !ok {
		return card{}, false
	}
	return s.in[i], true
}

func (s *said) pop() (card, bool) {
	x, ok := s.peek()
	if i, _ := s.first(); ok {
		s.in = slices.Delete(s.in, i, i+1)
	}
	return x, ok
}

// pair: a queue, and one as the words say it, of which the same is asked.
type pair struct {
	t    *testing.T
	what string
	q    *queue.Queue[card]
	s    *said
	name int
}

func newPair(t *testing.T, what string, less func(a, b card) bool) *pair {
	return &pair{t: t, what: what, q: queue.New(less), s: &said{less: less}}
}

func (p *pair) push(key int) {
	p.t.Helper()
	x := card{key, p.name}
	p.name++
	p.s.in = append(p.s.in, x)
	if e := p.q.Push(x); e != api.OK {
		p.t.Fatalf("%s: Push(%v) = %v", p.what, x, e)
	}
	p.look()
}

func (p *pair) pop() {
	p.t.Helper()
	want, there := p.s.pop()
	if x, ok := p.q.Pop(); x != want || ok != there {
		p.t.Fatalf("%s: Pop = %v, %v, not %v, %v", p.what, x, ok, want, there)
	}
	p.look()
}

// look: what is asked without changing anything, and twice, for the first time may have changed something.
func (p *pair) look() {
	p.t.Helper()
	want, there := p.s.peek()
	for range 2 {
		if x, ok := p.q.Peek(); x != want || ok != there {
			p.t.Fatalf("%s: Peek = %v, %v, not %v, %v", p.what, x, ok, want, there)
		}
		if p.q.Len() != len(p.s.in) {
			p.t.Fatalf("%s: Len = %d, not %d", p.what, p.q.Len(), len(p.s.in))
		}
	}
}

func (p *pair) popAll() {
	p.t.Helper()
	for len(p.s.in) > 0 {
		p.pop()
	}
	p.pop()
}

// lists: each list of n keys below so many.
func lists(n, keys int) [][]int {
	l := [][]int{nil}
	for range n {
		var longer [][]int
		for _, row := range l {
			for k := range keys {
				longer = append(longer, append(slices.Clone(row), k))
			}
		}
		l = longer
	}
	return l
}

// cards: the keys, each with its place as its name.
func cards(keys []int) []card {
	var l []card
	for i, key := range keys {
		l = append(l, card{key, i})
	}
	return l
}

// words: n keys without a pattern, below the bound.
func words(seed uint64, n int, bound uint64) []int {
	var l []int
	for i := range n {
		l = append(l, int(draw.Mix(seed<<32+uint64(i))%bound))
	}
	return l
}

// stable: the list in order by the library's stable sort, which keeps those in line of which neither is less.
func stable(l []card, less func(a, b card) bool) []card {
	l = slices.Clone(l)
	slices.SortStableFunc(l, func(a, b card) int {
		if less(a, b) {
			return -1
		}
		if less(b, a) {
			return 1
		}
		return 0
	})
	return l
}

func asNew[T any](t *testing.T, less func(a, b T) bool) {
	t.Helper()
	var none T
	if queue.New[T](nil) != nil {
		t.Errorf("New of no less is a queue of %T", none)
	}
	q := queue.New(less)
	if q == nil || q.Len() != 0 {
		t.Fatalf("New is %v, not a queue of nothing of %T", q, none)
	}
	if _, ok := q.Peek(); ok {
		t.Errorf("a new queue of %T has something to peek at", none)
	}
	if _, ok := q.Pop(); ok {
		t.Errorf("a new queue of %T has something to pop", none)
	}
	for i := range 3 {
		if e := q.Push(none); e != api.OK || q.Len() != i+1 {
			t.Errorf("Push of a %T = %v, Len = %d", none, e, q.Len())
		}
	}
}

func TestP7_1NewIsAQueueOfNothing(t *testing.T) {
	asNew(t, tens)
	asNew(t, byKey)
	asNew(t, cmp.Less[string])
	asNew(t, cmp.Less[float64])
	asNew(t, func(a, b []int) bool { return len(a) < len(b) })
	asNew(t, func(a, b *int) bool { return false })
	asNew(t, func(a, b struct{}) bool { return false })
	asNew(t, func(a, b any) bool { return false })
	asNew(t, func(a, b func()) bool { return false })
}

func TestP7_1LenCounts(t *testing.T) {
	const many = 70000
	q := queue.New(tens)
	for i := range many {
		if e := q.Push(i); e != api.OK || q.Len() != i+1 {
			t.Fatalf("Push of number %d = %v, Len = %d", i, e, q.Len())
		}
	}
	for i := range many {
		if _, ok := q.Pop(); !ok || q.Len() != many-1-i {
			t.Fatalf("Pop of number %d: %v, Len = %d", i, ok, q.Len())
		}
	}
}

func TestP7_1ThePushedIsInAsOftenAsItIsPushed(t *testing.T) {
	q := queue.New(tens)
	for i := range 5 {
		if e := q.Push(7); e != api.OK || q.Len() != i+1 {
			t.Errorf("Push = %v, Len = %d", e, q.Len())
		}
	}
	for i := range 5 {
		if x, ok := q.Pop(); x != 7 || !ok || q.Len() != 4-i {
			t.Errorf("Pop = %d, %v, Len = %d", x, ok, q.Len())
		}
	}
}

// Neither nil nor a zero object is a queue: both refuse what is pushed, and have nothing afterwards either.
func TestP7_1And2OfNoQueue(t *testing.T) {
	zero := queue.Queue[string]{}
	for name, q := range map[string]*queue.Queue[string]{
		"nil": nil, "of no less": queue.New[string](nil), "zero": &zero, "new": new(queue.Queue[string]),
	} {
		for range 3 {
			if e := q.Push("a"); e != api.ErrNil {
				t.Errorf("%s: Push = %v", name, e)
			}
			if q.Len() != 0 {
				t.Errorf("%s: Len = %d", name, q.Len())
			}
			if x, ok := q.Peek(); x != "" || ok {
				t.Errorf("%s: Peek = %q, %v", name, x, ok)
			}
			if x, ok := q.Pop(); x != "" || ok {
				t.Errorf("%s: Pop = %q, %v", name, x, ok)
			}
		}
	}
}

func TestP7_2Examples(t *testing.T) {
	q := queue.New(tens)
	for _, x := range []int{23, 11, 3, 1} {
		q.Push(x)
	}
	for i, want := range []int{11, 1, 23, 3} {
		if x, ok := q.Peek(); x != want || !ok || q.Len() != 4-i {
			t.Errorf("Peek = %d, %v, Len = %d, not %d", x, ok, q.Len(), want)
		}
		if x, ok := q.Pop(); x != want || !ok || q.Len() != 3-i {
			t.Errorf("Pop = %d, %v, Len = %d, not %d", x, ok, q.Len(), want)
		}
	}
	for range 3 {
		if x, ok := q.Pop(); x != 0 || ok || q.Len() != 0 {
			t.Errorf("Pop of nothing = %d, %v, Len = %d", x, ok, q.Len())
		}
		if x, ok := q.Peek(); x != 0 || ok {
			t.Errorf("Peek of nothing = %d, %v", x, ok)
		}
	}
}

// Every row of up to 8 acts, each of them a pop or a push of one of three keys.
func TestP7_2AsTheWordsSayInEveryRow(t *testing.T) {
	const pop = 3
	for name, less := range orders() {
		for _, acts := range lists(8, pop+1) {
			p := newPair(t, fmt.Sprintf("%s, acts %d", name, acts), less)
			for _, act := range acts {
				if act == pop {
					p.pop()
				} else {
					p.push(act)
				}
			}
		}
	}
}

func TestP7_2AsTheWordsSayInLongRows(t *testing.T) {
	for name, less := range orders() {
		for _, bound := range []uint64{1, 2, 25, 1000} {
			p := newPair(t, fmt.Sprintf("%s, keys below %d", name, bound), less)
			for i, key := range words(bound, 400, bound) {
				// It grows, shrinks to nothing, and grows again.
				if draw.Mix(uint64(i))%8 < []uint64{2, 7, 3, 5}[i/100] {
					p.pop()
				} else {
					p.push(key)
				}
			}
			p.popAll()
			p.push(3)
			p.popAll()
		}
	}
}

// Of equal ones the first is ahead, whatever goes out, and comes, between.
func TestP7_2FirstPushedFirstOut(t *testing.T) {
	for _, size := range []int{1, 2, 3, 7, 8, 100} {
		p := newPair(t, fmt.Sprintf("%d at once", size), byTens)
		for i := range size {
			p.push(10*i + 5)
		}
		for i := range 3 * size {
			p.pop()
			p.push(10*(size+i) + 5)
			p.push(i % 10)
			p.pop()
		}
		p.popAll()
		for i := range size {
			p.push(10 * (size - i))
		}
		p.popAll()
	}
}

func TestP7_2QueuesGoTheirOwnWays(t *testing.T) {
	up, down := newPair(t, "up", byKey), newPair(t, "down", byKeyDown)
	for _, key := range words(1, 60, 20) {
		up.push(key)
		down.push(key)
		if key%3 == 0 {
			up.pop()
		}
		if key%3 == 1 {
			down.pop()
		}
	}
	up.popAll()
	down.look()
	down.popAll()
}

// Less is asked of what was pushed alone: a zero pointer, say, would be nothing that it could look into.
func TestP7_2LessIsAskedOfThePushedAlone(t *testing.T) {
	q := queue.New(func(a, b *card) bool { return a.key < b.key })
	keys := words(2, 300, 50)
	for i, key := range keys {
		q.Push(&card{key, i})
	}
	for i, want := range stable(cards(keys), byKey) {
		if x, ok := q.Pop(); !ok || x == nil || *x != want {
			t.Fatalf("Pop of number %d = %v, %v, not %v", i, x, ok, want)
		}
	}
	if x, ok := q.Pop(); x != nil || ok {
		t.Errorf("Pop of nothing = %v, %v", x, ok)
	}
}

func TestP7_3Examples(t *testing.T) {
	for _, c := range []struct{ l, want []int }{
		{[]int{5, 15, 4}, []int{4, 5, 15}},
		{[]int{23, 11, 3, 1}, []int{11, 1, 23, 3}},
		{nil, nil},
		{[]int{}, nil},
		{[]int{9}, []int{9}},
		{[]int{5, 5}, []int{5, 5}},
		{[]int{20, 10, 30}, []int{20, 10, 30}},
		{[]int{3, 2, 1, 0}, []int{0, 1, 2, 3}},
		{[]int{math.MaxInt, math.MinInt, -1}, []int{math.MinInt, -1, math.MaxInt}}, // what is left: 7, -8, -1
	} {
		if l := queue.Sorted(c.l, tens); !slices.Equal(l, c.want) {
			t.Errorf("Sorted(%d) = %d, not %d", c.l, l, c.want)
		}
	}
	if l := queue.Sorted([]string{"b", "", "ab", "a"}, cmp.Less[string]); !slices.Equal(l, []string{"", "a", "ab", "b"}) {
		t.Errorf("Sorted of texts = %q", l)
	}
}

func TestP7_3NoLess(t *testing.T) {
	for _, l := range [][]int{nil, {}, {1}, {1, 2, 3}} {
		if got := queue.Sorted(l, nil); len(got) != 0 {
			t.Errorf("Sorted(%d, no less) = %d", l, got)
		}
	}
}

func TestP7_3AndP7_4InEveryOrder(t *testing.T) {
	check := func(what string, l []card, less func(a, b card) bool) {
		t.Helper()
		sorted := queue.Sorted(l, less)
		if !slices.Equal(sorted, stable(l, less)) {
			t.Fatalf("%s: Sorted of %d = %v", what, len(l), sorted)
		}
		q := queue.New(less)
		for _, x := range l {
			q.Push(x)
		}
		var popped []card
		for x, ok := q.Pop(); ok; x, ok = q.Pop() {
			popped = append(popped, x)
		}
		if !slices.Equal(popped, sorted) || q.Len() != 0 {
			t.Fatalf("%s: popped of %d = %v, Len = %d", what, len(l), popped, q.Len())
		}
		slices.SortFunc(popped, func(a, b card) int { return a.name - b.name })
		if !slices.Equal(popped, l) {
			t.Fatalf("%s: what comes out of %d is not what went in", what, len(l))
		}
	}
	for name, less := range orders() {
		for n := range 7 {
			for _, keys := range lists(n, 4) {
				check(name, cards(keys), less)
			}
		}
		for seed, n := range []int{15, 16, 17, 100, 5000, 65536} {
			check(name, cards(words(uint64(seed), n, 300)), less)
			check(name, cards(words(uint64(seed), n, 1<<62)), less)
		}
	}
}

func TestP7_3SharesNoMemory(t *testing.T) {
	for _, in := range [][]int{{1, 2, 3}, {3, 2, 1}, {7}} {
		l := append(slices.Clone(in), -77, -77)[:len(in)]
		first := queue.Sorted(l, tens)
		second := queue.Sorted(l, tens)
		want := slices.Clone(second)
		first = first[:cap(first)]
		for i := range first {
			first[i] = -5
		}
		if !slices.Equal(second, want) || !slices.Equal(l[:len(l)+2], append(slices.Clone(in), -77, -77)) {
			t.Errorf("Sorted(%d): handed in %d, answers %d, not %d", in, l[:len(l)+2], second, want)
		}
	}
}

// Of a less that is no order nothing is promised but that the calls end, and that none panics.
func TestP7_1To3LessThatIsNoOrder(t *testing.T) {
	asked := uint64(0)
	wild := func(a, b int) bool { asked++; return draw.Mix(asked)&1 == 0 }
	lesses := map[string]func(a, b int) bool{
		"always":    func(a, b int) bool { return true },
		"in a ring": func(a, b int) bool { return (a+1)%3 == b%3 },
		"not above": func(a, b int) bool { return a <= b },
		"wild":      wild,
	}
	for name, less := range lesses {
		q := queue.New(less)
		for i := range 300 {
			if e := q.Push(i); e != api.OK {
				t.Errorf("%s: Push = %v", name, e)
			}
			if i%3 == 2 {
				q.Pop()
			}
		}
		for ok := true; ok; {
			q.Peek()
			_, ok = q.Pop()
		}
		queue.Sorted([]int{3, 1, 2, 2, 1, 3, 0}, less)
	}
	queue.Sorted([]float64{2, math.NaN(), 1, math.NaN(), 0}, func(a, b float64) bool { return a < b })
}
