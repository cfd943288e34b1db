package node

import "stook/api"

// Find tells how many of the node's keys are below the key, and whether the next one is it.
func Find(n api.Node, key string) (int, bool) {
	// Each one is asked, as the keys of any node need not rise.
	below := 0
	for _, k := range n.Keys {
		if k < key {
			below++
		}
	}
	return below, below < len(n.Keys) && n.Keys[below] == key
}

// Kid tells how many of the node's keys are not above the key.
func Kid(n api.Node, key string) int {
	count := 0
	for _, k := range n.Keys {
		if k <= key {
			count++
		}
	}
	return count
}

// Set tells the leaf with that value of the key.
func Set(n api.Node, key, value string) (api.Node, api.Errno) {
	if !isWideLeaf(n) || !isKey(key) || !isValue(value) {
		return api.Node{}, api.ErrArg
	}
	at, there := Find(n, key)
	behind := at
	switch {
	case there:
		behind++
	case len(n.Keys) == wideLeaf:
		return api.Node{}, api.ErrLimit
	}
	return api.Node{
		Kind:   api.NodeLeaf,
		Keys:   instead(n.Keys, at, behind, key),
		Values: instead(n.Values, at, behind, value),
	}, api.OK
}

// Cut tells the leaf without the key.
func Cut(n api.Node, key string) (api.Node, api.Errno) {
	if !isWideLeaf(n) {
		return api.Node{}, api.ErrArg
	}
	at, there := Find(n, key)
	if !there {
		return api.Node{}, api.ErrNone
	}
	return api.Node{
		Kind:   api.NodeLeaf,
		Keys:   instead(n.Keys, at, at+1),
		Values: instead(n.Values, at, at+1),
	}, api.OK
}

// Part tells the two nodes that a wide one becomes, and what separates them.
func Part(n api.Node) (a api.Node, sep string, b api.Node, e api.Errno) {
	count := len(n.Keys)
	if count <= api.MaxKeys || !Wide(n) {
		return api.Node{}, "", api.Node{}, api.ErrArg
	}
	at := count / 2
	behind := at + 1 // an inner one's separator goes up, and stands in neither
	if n.Kind == api.NodeLeaf {
		at = count - count/2
		behind = at
	}
	return stretch(n, 0, at), n.Keys[at], stretch(n, behind, count), api.OK
}

// Join tells what the two are by that separator, put together.
func Join(a api.Node, sep string, b api.Node) (api.Node, api.Errno) {
	if !Wide(a) || !Wide(b) || a.Kind != b.Kind || !isKey(sep) {
		return api.Node{}, api.ErrArg
	}
	n := api.Node{Kind: a.Kind}
	if n.Kind == api.NodeLeaf {
		if !separates(a, sep, b) {
			return api.Node{}, api.ErrArg
		}
		n.Keys, n.Values = lay(a.Keys, b.Keys), lay(a.Values, b.Values)
	} else {
		n.Keys, n.Kids = lay(a.Keys, []string{sep}, b.Keys), lay(a.Kids, b.Kids)
	}
	// Of inner ones this tells, too, whether the separator stands between their keys.
	if !Wide(n) {
		return api.Node{}, api.ErrArg
	}
	return n, api.OK
}

// isWideLeaf tells whether the node is a leaf, and wide.
func isWideLeaf(n api.Node) bool {
	return n.Kind == api.NodeLeaf && Wide(n)
}

// separates tells whether it is above all keys of the first one, and above none of the second one's.
func separates(a api.Node, sep string, b api.Node) bool {
	ofFirst, _ := Find(a, sep)
	ofSecond, _ := Find(b, sep)
	return ofFirst == len(a.Keys) && ofSecond == 0
}

// stretch tells the node of those of its keys, from the one place to ahead of the other, and what belongs to them.
func stretch(n api.Node, from, to int) api.Node {
	s := api.Node{Kind: n.Kind, Keys: lay(n.Keys[from:to:to])}
	if n.Kind == api.NodeLeaf {
		s.Values = lay(n.Values[from:to:to])
	} else {
		s.Kids = lay(n.Kids[from : to+1 : to+1])
	}
	return s
}

// instead tells the list with these items where those from the one place to ahead of the other stood.
func instead(list []string, from, to int, items ...string) []string {
	return lay(list[:from:from], items, list[to:])
}

// lay lays the lists one behind the other, in memory of their own.
func lay[T any](lists ...[]T) []T {
	size := 0
	for _, list := range lists {
		size += len(list)
	}
	all := make([]T, size)
	at := 0
	for _, list := range lists {
		at += copy(all[at:], list)
	}
	return all
}
