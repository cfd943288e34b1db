package bpe

import (
	"stook/api"
	"stook/queue"
)

const (
	// placeCount is how many places a row has: one for each token that it may begin with, and one at either end, so that
	// each token has two neighbours.
	placeCount = api.MaxDoc + 2

	// noToken stands at both ends of a row, and where a token was joined to the one ahead of it. No join is of it.
	noToken = -1
)

// row is a row of tokens while pairs of it are joined. A token keeps its place; a join stands at the place of its left one.
type row struct {
	tokens  [placeCount]int
	ahead   [placeCount]int // the place of the token ahead
	behind  [placeCount]int // the place of the token behind
	joins   map[[2]int]join
	waiting *queue.Queue[pair]
}

// join is a token that is one, and its rank.
type join struct {
	token int
	rank  uint32
}

// pair is two tokens that stood side by side when they came to wait, with their places, and their join.
type pair struct {
	tokens, places [2]int
	join           join
}

// newRow answers the row of these tokens of the vocabulary, which are at most MaxDoc, with all its pairs that can be joined.
func newRow(v api.Vocab, l []int) *row {
	r := &row{joins: joinsOf(v), waiting: queue.New(goesFirst)}
	last := len(l) + 1
	r.tokens[0], r.tokens[last] = noToken, noToken
	copy(r.tokens[1:last], l)
	for place := range last {
		r.behind[place], r.ahead[place+1] = place+1, place
	}
	for place := range last {
		r.wait(place)
	}
	return r
}

// joinsOf answers the join of each two tokens that have one.
func joinsOf(v api.Vocab) map[[2]int]join {
	joins := make(map[[2]int]join, len(v.Pieces)-byteCount)
	for token, p := range v.Pieces {
		if p.Join {
			joins[[2]int{p.Left, p.Right}] = join{token, p.Rank}
		}
	}
	return joins
}

// goesFirst answers whether pair a is joined ahead of pair b, if both can be.
func goesFirst(a, b pair) bool {
	if a.join.rank != b.join.rank {
		return a.join.rank < b.join.rank
	}
	return a.places[0] < b.places[0]
}

// wait has the token at this place and the one behind it wait, if they can be joined.
func (r *row) wait(left int) {
	right := r.behind[left]
	tokens := [2]int{r.tokens[left], r.tokens[right]}
	if j, ok := r.joins[tokens]; ok {
		r.waiting.Push(pair{tokens: tokens, places: [2]int{left, right}, join: j})
	}
}

// step does a step; false, if no pair can be joined.
func (r *row) step() bool {
pairs:
	for p, ok := r.waiting.Pop(); ok; p, ok = r.waiting.Pop() {
		// What stands at a place only grows, till it goes: where both tokens are the same still, they stand side by side.
		for i, place := range p.places {
			if r.tokens[place] != p.tokens[i] {
				continue pairs
			}
		}
		r.put(p)
		return true
	}
	return false
}

// put puts the pair's join in the place of both; what stands beside it has another neighbour now.
func (r *row) put(p pair) {
	left, right := p.places[0], p.places[1]
	next := r.behind[right]
	r.tokens[left], r.tokens[right] = p.join.token, noToken
	r.behind[left], r.ahead[next] = next, left
	r.wait(r.ahead[left])
	r.wait(left)
}

// list answers the row's tokens.
func (r *row) list() []int {
	var l []int
	for place := r.behind[0]; r.tokens[place] != noToken; place = r.behind[place] {
		l = append(l, r.tokens[place])
	}
	return l
}
