package deal_test

import (
	"math"
	"slices"
	"testing"

	"stook/api"
	"stook/deal"
	"stook/draw"
)

const (
	most   = 65536
	stride = 0x9e3779b97f4a7c15 // how far a state of draw is from its next one
)

// saidSteps: the steps of a seed, as the words say them; the words are draw's.
func saidSteps(seed uint64, n int) []int {
	var l []int
	state := seed
	for i := n - 1; i >= 1; i-- {
		k, next, e := draw.Below(state, uint64(i+1))
		if e != api.OK {
			panic(e)
		}
		l, state = append(l, int(k)), next
	}
	return l
}

// saidOrder: the order of steps, each number sought from its place in the end: the changes are gone through backwards,
// and at their beginning each number stands at its own place.
func saidOrder(n int, steps []int) []int {
	var p []int
	for x := range n {
		for i := 1; i < n; i++ {
			switch k := steps[n-1-i]; x {
			case i:
				x = k
			case k:
				x = i
			}
		}
		p = append(p, x)
	}
	return p
}

// saidIs: whether these are the numbers 0 to n - 1, each once: in line they are those.
func saidIs(p []int) bool {
	for i, k := range slices.Sorted(slices.Values(p)) {
		if i != k {
			return false
		}
	}
	return len(p) <= most
}

// rows: each row of steps for n.
func rows(n int) [][]int {
	l := [][]int{nil}
	for i := n - 1; i >= 1; i-- {
		var longer [][]int
		for _, row := range l {
			for k := range i + 1 {
				longer = append(longer, append(slices.Clone(row), k))
			}
		}
		l = longer
	}
	return l
}

// lists: each list of n numbers from low to high.
func lists(n, low, high int) [][]int {
	l := [][]int{nil}
	for range n {
		var longer [][]int
		for _, row := range l {
			for k := low; k <= high; k++ {
				longer = append(longer, append(slices.Clone(row), k))
			}
		}
		l = longer
	}
	return l
}

// seeds: the least and the greatest ones, and some without a pattern.
func seeds() []uint64 {
	l := []uint64{0, 1, 7, 9, math.MaxUint32, 1 << 63, math.MaxUint64}
	n := uint64(88172645463325252)
	for range 20 {
		n ^= n << 13
		n ^= n >> 7
		n ^= n << 17
		l = append(l, n)
	}
	return l
}

// line: 0, 1, .. n - 1.
func line(n int) []int {
	p := make([]int, n)
	for i := range p {
		p[i] = i
	}
	return p
}

func TestP6_1StepsOfASeed(t *testing.T) {
	for _, seed := range seeds() {
		for _, n := range []int{0, 1, 2, 3, 4, 5, 16, 100, 1000, most - 1, most} {
			if n > 1000 && seed > 9 {
				continue
			}
			l, e := deal.Steps(seed, n)
			if !slices.Equal(l, saidSteps(seed, n)) || e != api.OK || len(l) != max(n-1, 0) {
				t.Fatalf("Steps(%d, %d) = %d numbers, %v", seed, n, len(l), e)
			}
		}
	}
}

// A word that is too great has draw take another one: the next step is drawn from the state behind both.
func TestP6_1StepsGoOnFromTheStateBehind(t *testing.T) {
	for _, n := range []int{4, 7, 8, 50, 65536} {
		for _, number := range []int{n - 1, 3} { // of this one the word is too great
			at := draw.Unmix(math.MaxUint64)
			at -= stride
			if _, next, _ := draw.Below(at, uint64(number)); next == at+stride {
				t.Fatalf("the word isn't too great for %d", number)
			}
			seed := at - uint64(n-number)*stride
			l, e := deal.Steps(seed, n)
			if want := saidSteps(seed, n); !slices.Equal(l, want) || e != api.OK {
				t.Errorf("Steps(%d, %d) = %d numbers, %v, with a word too great for %d", seed, n, len(l), e, number)
			}
		}
	}
}

func TestP6_1StepsOfFixedSeeds(t *testing.T) {
	for _, c := range []struct {
		seed uint64
		n    int
		want []int
	}{
		// the words of 1234567: 6457827717110365317, 3203168211198807973, 9817491932198370423, 4593380528125082431
		{1234567, 2, []int{1}},
		{1234567, 3, []int{0, 1}},
		{1234567, 5, []int{2, 1, 0, 1}},
		{9, 1, nil},
		{9, 0, nil},
	} {
		if l, e := deal.Steps(c.seed, c.n); !slices.Equal(l, c.want) || e != api.OK {
			t.Errorf("Steps(%d, %d) = %d, %v, not %d", c.seed, c.n, l, e, c.want)
		}
	}
}

func TestP6_1OfExamples(t *testing.T) {
	for _, c := range []struct {
		n           int
		steps, want []int
	}{
		{0, nil, nil},
		{0, []int{}, nil},
		{1, nil, []int{0}},
		{2, []int{0}, []int{1, 0}},
		{2, []int{1}, []int{0, 1}},
		{3, []int{0, 0}, []int{1, 2, 0}},
		{3, []int{2, 1}, []int{0, 1, 2}},
		{3, []int{0, 1}, []int{2, 1, 0}},
		{4, []int{1, 0, 0}, []int{3, 2, 0, 1}},
	} {
		if p, e := deal.Of(c.n, c.steps); !slices.Equal(p, c.want) || e != api.OK {
			t.Errorf("Of(%d, %d) = %d, %v, not %d", c.n, c.steps, p, e, c.want)
		}
	}
}

func TestP6_1OfAsTheWordsSay(t *testing.T) {
	for n := range 7 {
		for _, steps := range rows(n) {
			if p, e := deal.Of(n, steps); !slices.Equal(p, saidOrder(n, steps)) || e != api.OK {
				t.Fatalf("Of(%d, %d) = %d, %v, not %d", n, steps, p, e, saidOrder(n, steps))
			}
		}
	}
	for _, seed := range seeds() {
		steps := saidSteps(seed, 300)
		if p, e := deal.Of(300, steps); !slices.Equal(p, saidOrder(300, steps)) || e != api.OK {
			t.Fatalf("Of(300, %d) = %d, %v", steps, p, e)
		}
	}
}

// Of lists with numbers below and above, Of takes just those that are a row of steps.
func TestP6_1OfTakesStepsAlone(t *testing.T) {
	for n := range 5 {
		for size := range 5 {
			for _, l := range lists(size, -1, 4) {
				steps := slices.ContainsFunc(rows(n), func(row []int) bool { return slices.Equal(row, l) })
				p, e := deal.Of(n, l)
				if steps != (e == api.OK) || !steps && (e != api.ErrArg || len(p) != 0) {
					t.Fatalf("Of(%d, %d) = %d, %v", n, l, p, e)
				}
			}
		}
	}
}

func TestP6_1OfWrongSteps(t *testing.T) {
	great := make([]int, most-1)
	for _, c := range []struct {
		n    int
		what string
		l    []int
	}{
		{2, "no step", nil},
		{2, "far below", []int{math.MinInt}},
		{2, "far above", []int{math.MaxInt}},
		{3, "the first is 3", []int{3, 0}},
		{3, "the last is 2", []int{0, 2}},
		{3, "the last is below", []int{0, -1}},
		{0, "one step", []int{0}},
		{1, "one step", []int{0}},
		{5, "one too many", []int{0, 0, 0, 0, 0}},
		{5, "one too few", []int{0, 0, 0}},
		{most, "one too few", great[:most-2]},
		{most - 1, "one too many", great},
		{most, "the first is too great", append([]int{most}, great[1:]...)},
		{most, "the last is too great", append(slices.Clone(great[1:]), 2)},
	} {
		if p, e := deal.Of(c.n, c.l); len(p) != 0 || e != api.ErrArg {
			t.Errorf("Of(%d, %s) = %d numbers, %v", c.n, c.what, len(p), e)
		}
	}
}

func TestP6_1WrongCounts(t *testing.T) {
	for _, c := range []struct {
		n int
		e api.Errno
	}{
		{-1, api.ErrArg},
		{-2, api.ErrArg},
		{-most, api.ErrArg},
		{math.MinInt + 1, api.ErrArg},
		{math.MinInt, api.ErrArg},
		{most + 1, api.ErrLimit},
		{math.MaxInt32 + 1, api.ErrLimit},
		{math.MaxInt, api.ErrLimit},
	} {
		if l, e := deal.Steps(5, c.n); len(l) != 0 || e != c.e {
			t.Errorf("Steps(5, %d) = %d numbers, %v, not %v", c.n, len(l), e, c.e)
		}
		if p, e := deal.Deal(5, c.n); len(p) != 0 || e != c.e {
			t.Errorf("Deal(5, %d) = %d numbers, %v, not %v", c.n, len(p), e, c.e)
		}
		for _, steps := range [][]int{nil, {0}, {0, 0}, {-1}, make([]int, most)} {
			if p, e := deal.Of(c.n, steps); len(p) != 0 || e != c.e {
				t.Errorf("Of(%d, %d steps) = %d numbers, %v, not %v", c.n, len(steps), len(p), e, c.e)
			}
		}
	}
}

func TestP6_1OfTheMostNumbers(t *testing.T) {
	first := make([]int, most-1) // each changes with place 0: all go up by one, and 0 goes to the end
	p, e := deal.Of(most, first)
	if e != api.OK || len(p) != most || !slices.Equal(p[:most-1], line(most)[1:]) || p[most-1] != 0 {
		t.Errorf("Of steps 0: %d numbers, %v", len(p), e)
	}
	own := line(most)[1:] // each changes with itself
	slices.Reverse(own)
	p, e = deal.Of(most, own)
	if e != api.OK || !slices.Equal(p, line(most)) {
		t.Errorf("Of steps that change nothing: %d numbers, %v", len(p), e)
	}
}

func TestP6_1DealIsTheOrderOfTheSeedsSteps(t *testing.T) {
	for _, seed := range seeds() {
		for _, n := range []int{0, 1, 2, 3, 5, 64, 300} {
			p, e := deal.Deal(seed, n)
			if !slices.Equal(p, saidOrder(n, saidSteps(seed, n))) || e != api.OK {
				t.Fatalf("Deal(%d, %d) = %d, %v", seed, n, p, e)
			}
		}
	}
	for _, n := range []int{most - 1, most} {
		p, e := deal.Deal(7, n)
		q, f := deal.Of(n, saidSteps(7, n))
		if !slices.Equal(p, q) || len(p) != n || e != api.OK || f != api.OK {
			t.Errorf("Deal(7, %d) = %d numbers, %v", n, len(p), e)
		}
	}
}

func TestP6_2IsAsTheWordsSay(t *testing.T) {
	for n := range 6 {
		for _, p := range lists(n, -1, 5) {
			is := saidIs(p)
			if deal.Is(p) != is {
				t.Fatalf("Is(%d) = %v", p, !is)
			}
			want := api.ErrArg
			if is {
				want = api.OK
			}
			if steps, e := deal.Back(p); e != want || !is && len(steps) != 0 {
				t.Fatalf("Back(%d) = %d, %v, not %v", p, steps, e, want)
			}
		}
	}
}

// wrongOrders: lists of which none is an order.
func wrongOrders() [][]int {
	l := [][]int{{1}, {-1}, {math.MinInt}, {math.MaxInt}, {0, 0}, {1, 1}, {0, 2}, {1, 2}, {0, -1}, {0, 1, 1}, {3, 1, 2}, {1, 2, 3}, {0, 1, math.MaxInt}, {0, math.MinInt, 1}}
	for _, change := range [][2]int{{0, 1}, {0, most}, {0, -1}, {most - 1, 0}, {most - 1, most}, {most / 2, most/2 - 1}} {
		p := line(most)
		p[change[0]] = change[1]
		l = append(l, p)
	}
	return l
}

func TestP6_2WrongOrders(t *testing.T) {
	for _, p := range wrongOrders() {
		if deal.Is(p) {
			t.Errorf("Is of %d numbers that begin with %d", len(p), p[0])
		}
		if steps, e := deal.Back(p); len(steps) != 0 || e != api.ErrArg {
			t.Errorf("Back of %d numbers that begin with %d = %d steps, %v", len(p), p[0], len(steps), e)
		}
	}
}

func TestP6_2NoneIsAnOrder(t *testing.T) {
	for _, p := range [][]int{nil, {}, {0}} {
		steps, e := deal.Back(p)
		if !deal.Is(p) || len(steps) != 0 || e != api.OK {
			t.Errorf("Is(%d) = %v, Back = %d, %v", p, deal.Is(p), steps, e)
		}
	}
}

// tooMany: lists of more numbers than are dealt, orders and others.
func tooMany() [][]int {
	return [][]int{line(most + 1), make([]int, most+1), line(2 * most)}
}

func TestP6_2OfTheMostNumbersAndMore(t *testing.T) {
	p := line(most)
	slices.Reverse(p)
	steps, e := deal.Back(p)
	if q, f := deal.Of(most, steps); !deal.Is(p) || e != api.OK || f != api.OK || !slices.Equal(q, p) {
		t.Errorf("Is = %v, Back = %d steps, %v", deal.Is(p), len(steps), e)
	}
	for _, p := range tooMany() {
		if steps, e := deal.Back(p); deal.Is(p) || len(steps) != 0 || e != api.ErrLimit {
			t.Errorf("%d numbers: Is = %v, Back = %d steps, %v", len(p), deal.Is(p), len(steps), e)
		}
	}
}

func TestP6_2BackOfExamples(t *testing.T) {
	for _, c := range []struct{ p, want []int }{
		{[]int{1, 2, 0}, []int{0, 0}},
		{[]int{0, 1, 2}, []int{2, 1}},
		{[]int{2, 1, 0}, []int{0, 1}},
		{[]int{1, 0}, []int{0}},
		{[]int{0, 1}, []int{1}},
		{[]int{3, 2, 0, 1}, []int{1, 0, 0}},
	} {
		if l, e := deal.Back(c.p); !slices.Equal(l, c.want) || e != api.OK {
			t.Errorf("Back(%d) = %d, %v, not %d", c.p, l, e, c.want)
		}
	}
}

func TestP6_2BackIsTheStepsWhoseOrderItIs(t *testing.T) {
	for n := range 7 {
		for _, steps := range rows(n) {
			p := saidOrder(n, steps)
			if l, e := deal.Back(p); !slices.Equal(l, steps) || e != api.OK {
				t.Fatalf("Back(%d) = %d, %v, not %d", p, l, e, steps)
			}
		}
	}
	for _, seed := range seeds() {
		steps := saidSteps(seed, 300)
		if l, e := deal.Back(saidOrder(300, steps)); !slices.Equal(l, steps) || e != api.OK {
			t.Fatalf("Back of the order of %d = %d, %v", steps, l, e)
		}
	}
}

func TestP6_3TurnOfExamples(t *testing.T) {
	for _, c := range []struct{ p, want []int }{
		{nil, nil},
		{[]int{0}, []int{0}},
		{[]int{1, 0}, []int{1, 0}},
		{[]int{1, 2, 0}, []int{2, 0, 1}},
		{[]int{2, 0, 1}, []int{1, 2, 0}},
		{[]int{3, 2, 0, 1}, []int{2, 3, 1, 0}},
	} {
		if q, e := deal.Turn(c.p); !slices.Equal(q, c.want) || e != api.OK {
			t.Errorf("Turn(%d) = %d, %v, not %d", c.p, q, e, c.want)
		}
	}
}

func TestP6_3TurnAsThePromiseSays(t *testing.T) {
	check := func(p []int) {
		q, e := deal.Turn(p)
		if e != api.OK || len(q) != len(p) || !saidIs(q) {
			t.Fatalf("Turn(%d) = %d, %v", p, q, e)
		}
		for i := range p {
			if q[p[i]] != i {
				t.Fatalf("Turn(%d) has %d at the place %d, not %d", p, q[p[i]], p[i], i)
			}
		}
	}
	for n := range 7 {
		for _, steps := range rows(n) {
			check(saidOrder(n, steps))
		}
	}
	p, _ := deal.Deal(3, most)
	check(p)
}

func TestP6_3TakeOfExamples(t *testing.T) {
	for _, c := range []struct {
		p       []int
		l, want []uint64
	}{
		{nil, nil, nil},
		{[]int{0}, []uint64{7}, []uint64{7}},
		{[]int{1, 2, 0}, []uint64{10, 20, 30}, []uint64{20, 30, 10}},
		{[]int{2, 0, 1}, []uint64{10, 20, 30}, []uint64{30, 10, 20}},
		{[]int{1, 0}, []uint64{0, math.MaxUint64}, []uint64{math.MaxUint64, 0}},
		{[]int{1, 0}, []uint64{5, 5}, []uint64{5, 5}},
	} {
		if l, e := deal.Take(c.p, c.l); !slices.Equal(l, c.want) || e != api.OK {
			t.Errorf("Take(%d, %d) = %d, %v, not %d", c.p, c.l, l, e, c.want)
		}
	}
}

func TestP6_3TakeAsThePromiseSays(t *testing.T) {
	for _, n := range []int{0, 1, 2, 3, 10, 300, most} {
		p, _ := deal.Deal(uint64(n), n)
		list := make([]uint64, n)
		for i := range list {
			list[i] = draw.Mix(uint64(i)) / 3
		}
		l, e := deal.Take(p, list)
		if e != api.OK || len(l) != n {
			t.Fatalf("Take of %d = %d numbers, %v", n, len(l), e)
		}
		for i := range l {
			if l[i] != list[p[i]] {
				t.Fatalf("Take of %d has %d at the place %d, not %d", n, l[i], i, list[p[i]])
			}
		}
	}
}

func TestP6_3WrongOrders(t *testing.T) {
	for _, p := range wrongOrders() {
		if q, e := deal.Turn(p); len(q) != 0 || e != api.ErrArg {
			t.Errorf("Turn of %d numbers that begin with %d = %d numbers, %v", len(p), p[0], len(q), e)
		}
		for _, n := range []int{0, len(p) - 1, len(p), len(p) + 1} {
			if l, e := deal.Take(p, make([]uint64, n)); len(l) != 0 || e != api.ErrArg {
				t.Errorf("Take of %d numbers that begin with %d, and %d = %d numbers, %v", len(p), p[0], n, len(l), e)
			}
		}
	}
	for _, p := range tooMany() {
		if q, e := deal.Turn(p); len(q) != 0 || e != api.ErrLimit {
			t.Errorf("Turn of %d numbers = %d numbers, %v", len(p), len(q), e)
		}
		for _, n := range []int{0, most, len(p)} {
			if l, e := deal.Take(p, make([]uint64, n)); len(l) != 0 || e != api.ErrLimit {
				t.Errorf("Take of %d numbers, and %d = %d numbers, %v", len(p), n, len(l), e)
			}
		}
	}
}

func TestP6_3TakeOfListsOfAnotherSize(t *testing.T) {
	for _, n := range []int{0, 1, 2, 3, 300, most} {
		p, _ := deal.Deal(1, n)
		for _, other := range []int{0, n - 1, n + 1, 2*n + 1} {
			if other < 0 || other == n {
				continue
			}
			if l, e := deal.Take(p, make([]uint64, other)); len(l) != 0 || e != api.ErrArg {
				t.Errorf("Take of %d numbers, and %d = %d numbers, %v", n, other, len(l), e)
			}
		}
	}
}

func TestP6_4OfAndBackAreEachOthersTurn(t *testing.T) {
	for n := range 8 {
		met := map[string]bool{}
		for _, steps := range rows(n) {
			p, e := deal.Of(n, steps)
			l, f := deal.Back(p)
			if e != api.OK || f != api.OK || !saidIs(p) || len(p) != n || !slices.Equal(l, steps) {
				t.Fatalf("Of(%d, %d) = %d, %v, Back = %d, %v", n, steps, p, e, l, f)
			}
			name := make([]byte, n)
			for i, k := range p {
				name[i] = byte(k)
			}
			if met[string(name)] {
				t.Fatalf("%d is the order of two rows of steps", p)
			}
			met[string(name)] = true
		}
	}
	for _, n := range []int{100, most - 1, most} {
		for seed := range uint64(3) {
			p, e := deal.Deal(seed, n)
			steps, f := deal.Back(p)
			q, g := deal.Of(n, steps)
			if e != api.OK || f != api.OK || g != api.OK || !slices.Equal(p, q) || !slices.Equal(steps, saidSteps(seed, n)) {
				t.Errorf("Of of Back of Deal(%d, %d): %v, %v, %v", seed, n, e, f, g)
			}
		}
	}
}

func TestP6_4TakeAndItsTurn(t *testing.T) {
	for _, n := range []int{0, 1, 2, 3, 10, 1000, most} {
		list := make([]uint64, n)
		for i := range list {
			list[i] = draw.Mix(uint64(i)) >> (i % 64) // some more than once
		}
		for seed := range uint64(5) {
			p, _ := deal.Deal(seed, n)
			turned, e := deal.Turn(p)
			taken, f := deal.Take(p, list)
			back, g := deal.Take(turned, taken)
			if e != api.OK || f != api.OK || g != api.OK || !slices.Equal(back, list) {
				t.Errorf("Take by Deal(%d, %d), and by its Turn: %v, %v, %v", seed, n, e, f, g)
			}
			if !slices.Equal(slices.Sorted(slices.Values(taken)), slices.Sorted(slices.Values(list))) {
				t.Errorf("Take by Deal(%d, %d) has other numbers", seed, n)
			}
		}
	}
}

// roomy: the list, with room behind its end that holds a mark.
func roomy(l []int) []int {
	return append(slices.Clone(l), -77, -77)[:len(l)]
}

func marked(l []int) bool {
	room := l[:len(l)+2]
	return room[len(l)] == -77 && room[len(l)+1] == -77
}

// What is handed in stays as it is, and what is answered is new memory: whatever is done to an answer, what was handed
// in and a second answer are as they were.
func TestP6_1To3ShareNoMemory(t *testing.T) {
	spoil := func(l []int) {
		l = l[:cap(l)]
		for i := range l {
			l[i] = -5
		}
	}
	calls := []struct {
		name string
		in   []int
		call func([]int) ([]int, api.Errno)
	}{
		{"Of", []int{1, 0, 1}, func(l []int) ([]int, api.Errno) { return deal.Of(4, l) }},
		{"Of that changes nothing", []int{3, 2, 1}, func(l []int) ([]int, api.Errno) { return deal.Of(4, l) }},
		{"Back", []int{2, 0, 3, 1}, deal.Back},
		{"Turn", []int{2, 0, 3, 1}, deal.Turn},
		{"Turn of numbers in line", []int{0, 1, 2, 3}, deal.Turn},
		{"Steps", []int{1}, func(l []int) ([]int, api.Errno) { return deal.Steps(9, 4) }},
		{"Deal", []int{1}, func(l []int) ([]int, api.Errno) { return deal.Deal(9, 4) }},
	}
	for _, c := range calls {
		in := roomy(c.in)
		first, _ := c.call(in)
		second, e := c.call(in)
		want := slices.Clone(second)
		spoil(first)
		third, _ := c.call(in)
		if !slices.Equal(second, want) || !slices.Equal(third, want) || !slices.Equal(in, c.in) || !marked(in) || e != api.OK {
			t.Errorf("%s: handed in %d, answers %d, %d, not %d, %v", c.name, in, second, third, want, e)
		}
	}
}

func TestP6_3TakeSharesNoMemory(t *testing.T) {
	for _, order := range [][]int{{0, 1, 2}, {2, 0, 1}} {
		p := roomy(order)
		l := []uint64{10, 20, 30, 77}[:3]
		first, e := deal.Take(p, l)
		second, _ := deal.Take(p, l)
		want := slices.Clone(second)
		first = first[:cap(first)]
		for i := range first {
			first[i] = 5
		}
		if !slices.Equal(second, want) || !slices.Equal(p, order) || !marked(p) || !slices.Equal(l[:4], []uint64{10, 20, 30, 77}) || e != api.OK {
			t.Errorf("Take(%d): handed in %d, %d, answers %d, %v", order, p, l, second, e)
		}
	}
	if deal.Is(roomy([]int{1, 0})) != true {
		t.Error("Is of an order with room behind its end")
	}
}
