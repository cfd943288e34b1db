package pager

// cache keeps the pages that were read or written last.
type cache struct {
	room  int // how many it keeps at most
	pages map[int]kept
	last  int // the turn of the page that was read or written last
}

// kept is a page that is at hand, and the turn at which it was read or written: no two have one turn.
type kept struct {
	content
	turn int
}

// emptyCache answers a cache of so many pages, which has none yet.
func emptyCache(room int) cache {
	return cache{room: room, pages: map[int]kept{}}
}

// find answers what the page has, which is the one that was read last from then on; false, if it is not at hand.
func (c *cache) find(n int) (content, bool) {
	k, ok := c.pages[n]
	if ok {
		c.keep(n, k.content)
	}
	return k.content, ok
}

// keep has the page at hand, which was read or written now. If there are too many, the one that was that longest ago goes: a
// cache of no pages keeps not even this one.
func (c *cache) keep(n int, one content) {
	c.last++
	c.pages[n] = kept{one, c.last}
	if len(c.pages) > c.room {
		delete(c.pages, c.oldest())
	}
}

// forget has the page at hand no more.
func (c *cache) forget(n int) {
	delete(c.pages, n)
}

// oldest answers the page that was read or written longest ago.
func (c *cache) oldest() int {
	oldest, turn := 0, c.last+1
	for n, k := range c.pages {
		if k.turn < turn {
			oldest, turn = n, k.turn
		}
	}
	return oldest
}
