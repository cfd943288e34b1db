package node_test

import (
	"encoding/binary"
	"maps"
	"math"
	"slices"
	"strings"

	"stook/api"
	"stook/draw"
	"stook/leb"
)

// What the chapter's words say, clause by clause, and nodes, keys and bytes to hold it against. The numbers as bytes are the
// library's; what is wrong with a number or a row is leb's.

const (
	mostKey  = 40
	mostKeys = 6
	leastKid = 2
	mostKid  = 65535
)

// same: the nodes are one, whether a list of theirs is nil or empty.
func same(a, b api.Node) bool {
	return a.Kind == b.Kind && slices.Equal(a.Keys, b.Keys) && slices.Equal(a.Values, b.Values) && slices.Equal(a.Kids, b.Kids)
}

// none: the node of which nothing is told.
func none(n api.Node) bool {
	return same(n, api.Node{})
}

// aKey: it has 1 to MaxKey bytes.
func aKey(key string) bool {
	return len(key) > 0 && len(key) < 41
}

// aValue: it has at most MaxValue bytes.
func aValue(value string) bool {
	return len(value) < 41
}

// aNode: what the words say of a node, but how many keys it has.
func aNode(n api.Node) bool {
	for i, key := range n.Keys {
		if !aKey(key) || slices.ContainsFunc(n.Keys[:i], func(ahead string) bool { return strings.Compare(ahead, key) != -1 }) {
			return false
		}
	}
	for _, value := range n.Values {
		if !aValue(value) {
			return false
		}
	}
	for _, kid := range n.Kids {
		if kid < leastKid || kid > mostKid {
			return false
		}
	}
	keys, values, kids := len(n.Keys), len(n.Values), len(n.Kids)
	switch n.Kind {
	case 1:
		return values == keys && kids == 0
	case 2:
		return keys > 0 && kids-keys == 1 && values == 0
	}
	return false
}

func saidWide(n api.Node) bool {
	most := map[api.NodeKind]int{1: 12, 2: 13}
	return aNode(n) && len(n.Keys) <= most[n.Kind]
}

func saidMay(n api.Node) bool {
	return aNode(n) && len(n.Keys) <= mostKeys
}

// counted: the text's counted row behind the bytes.
func counted(b []byte, text string) []byte {
	return append(binary.AppendUvarint(b, uint64(len(text))), text...)
}

// laid: the bytes of a node, whether it may be or not: of as many keys as the number says.
func laid(n api.Node, number uint64) []byte {
	b := binary.AppendUvarint(nil, number)
	for i, kid := range n.Kids {
		if i > 0 {
			b = counted(b, n.Keys[i-1])
		}
		b = binary.AppendUvarint(b, uint64(kid))
	}
	for i, value := range n.Values {
		b = counted(counted(b, n.Keys[i]), value)
	}
	return b
}

func saidPut(n api.Node) ([]byte, api.Errno) {
	if !saidMay(n) {
		return nil, api.ErrArg
	}
	return laid(n, uint64(len(n.Keys))), api.OK
}

// parts: what stands in a node's bytes: n a number of keys, k a kid's number, r a key's row, v a value's.
func parts(kind api.NodeKind, keys int) string {
	if kind == api.NodeLeaf {
		return "n" + strings.Repeat("rv", keys)
	}
	return "nk" + strings.Repeat("rk", keys)
}

func saidGet(kind api.NodeKind, b []byte) (api.Node, api.Errno) {
	if kind != 1 && kind != 2 {
		return api.Node{}, api.ErrArg
	}
	count, _, e := leb.Get(b, 0)
	switch {
	case e != api.OK:
		return api.Node{}, e
	case count > mostKeys:
		return api.Node{}, api.ErrLimit
	}
	n := api.Node{Kind: kind}
	at := 0
	for _, part := range parts(kind, int(count)) {
		var number uint64
		var row []byte
		if part == 'n' || part == 'k' {
			number, at, e = leb.Get(b, at)
		} else {
			row, at, e = leb.GetRow(b, at, 40)
		}
		if e != api.OK {
			return api.Node{}, e
		}
		switch part {
		case 'k':
			if number > mostKid {
				return api.Node{}, api.ErrLimit
			}
			n.Kids = append(n.Kids, int(number))
		case 'r':
			n.Keys = append(n.Keys, string(row))
		case 'v':
			n.Values = append(n.Values, string(row))
		}
	}
	if at != len(b) || !saidMay(n) {
		return api.Node{}, api.ErrForm
	}
	return n, api.OK
}

func saidFind(n api.Node, key string) (int, bool) {
	below := len(slices.DeleteFunc(slices.Clone(n.Keys), func(k string) bool { return strings.Compare(k, key) >= 0 }))
	next := append(slices.Clone(n.Keys), "")[below]
	return below, below != len(n.Keys) && next == key
}

func saidKid(n api.Node, key string) int {
	return len(slices.DeleteFunc(slices.Clone(n.Keys), func(k string) bool { return strings.Compare(k, key) > 0 }))
}

// pairs: what the leaf has, as a map.
func pairs(n api.Node) map[string]string {
	m := map[string]string{}
	for i, key := range n.Keys {
		m[key] = n.Values[i]
	}
	return m
}

// leafOf: the leaf that has what the map has.
func leafOf(m map[string]string) api.Node {
	n := api.Node{Kind: api.NodeLeaf, Keys: slices.Sorted(maps.Keys(m))}
	for _, key := range n.Keys {
		n.Values = append(n.Values, m[key])
	}
	return n
}

func saidSet(n api.Node, key, value string) (api.Node, api.Errno) {
	if !saidWide(n) || n.Kind != api.NodeLeaf || !aKey(key) || !aValue(value) {
		return api.Node{}, api.ErrArg
	}
	m := pairs(n)
	m[key] = value
	if len(m) > 12 {
		return api.Node{}, api.ErrLimit
	}
	return leafOf(m), api.OK
}

func saidCut(n api.Node, key string) (api.Node, api.Errno) {
	if !saidWide(n) || n.Kind != api.NodeLeaf {
		return api.Node{}, api.ErrArg
	}
	m := pairs(n)
	if _, there := m[key]; !there {
		return api.Node{}, api.ErrNone
	}
	delete(m, key)
	return leafOf(m), api.OK
}

func saidPart(n api.Node) (a api.Node, sep string, b api.Node, e api.Errno) {
	if !saidWide(n) || len(n.Keys) <= mostKeys {
		return a, "", b, api.ErrArg
	}
	k := len(n.Keys)
	a.Kind, b.Kind = n.Kind, n.Kind
	if n.Kind == api.NodeLeaf {
		for i := range k {
			half := &a
			if i >= k-k/2 {
				half = &b
			}
			half.Keys, half.Values = append(half.Keys, n.Keys[i]), append(half.Values, n.Values[i])
		}
		return a, b.Keys[0], b, api.OK
	}
	for i, kid := range n.Kids {
		if i <= k/2 {
			a.Kids = append(a.Kids, kid)
		} else {
			b.Kids = append(b.Kids, kid)
		}
	}
	for i, key := range n.Keys {
		switch {
		case i < k/2:
			a.Keys = append(a.Keys, key)
		case i == k/2:
			sep = key
		default:
			b.Keys = append(b.Keys, key)
		}
	}
	return a, sep, b, api.OK
}

func saidJoin(a api.Node, sep string, b api.Node) (api.Node, api.Errno) {
	if !saidWide(a) || !saidWide(b) || a.Kind != b.Kind || !aKey(sep) {
		return api.Node{}, api.ErrArg
	}
	n := api.Node{Kind: a.Kind, Values: slices.Concat(a.Values, b.Values), Kids: slices.Concat(a.Kids, b.Kids)}
	if n.Kind == api.NodeLeaf {
		n.Keys = slices.Concat(a.Keys, b.Keys)
		above := func(key string) bool { return sep <= key }
		below := func(key string) bool { return sep > key }
		if slices.ContainsFunc(a.Keys, above) || slices.ContainsFunc(b.Keys, below) {
			return api.Node{}, api.ErrArg
		}
	} else {
		n.Keys = slices.Concat(a.Keys, []string{sep}, b.Keys)
	}
	if !saidWide(n) {
		return api.Node{}, api.ErrArg
	}
	return n, api.OK
}

// chance: numbers by a seed.
type chance struct{ state uint64 }

func (c *chance) word() uint64 {
	n, next := draw.Next(c.state)
	c.state = next
	return n
}

func (c *chance) below(bound int) int {
	n, next, _ := draw.Below(c.state, uint64(bound))
	c.state = next
	return int(n)
}

// text: one of so many bytes.
func (c *chance) text(length int) string {
	b := make([]byte, length)
	for i := range b {
		b[i] = byte(c.word())
	}
	return string(b)
}

// leaf: one of these keys, each with a value of its own.
func leaf(keys ...string) api.Node {
	n := api.Node{Kind: api.NodeLeaf, Keys: keys}
	for i, key := range keys {
		n.Values = append(n.Values, strings.Repeat(key, i%2)+string(rune('0'+i)))
	}
	return n
}

// inner: one of these keys, each kid unlike the others.
func inner(keys ...string) api.Node {
	n := api.Node{Kind: api.NodeInner, Keys: keys, Kids: []int{77}}
	for i := range keys {
		n.Kids = append(n.Kids, 200+3*i)
	}
	return n
}

// letters: the keys a, b, c .., so many of them.
func letters(count int) []string {
	var l []string
	for i := range count {
		l = append(l, string(rune('a'+i)))
	}
	return l
}

// chosen: those letters whose bits are 1.
func chosen(bits int) []string {
	var l []string
	for i, letter := range letters(20) {
		if bits>>i&1 == 1 {
			l = append(l, letter)
		}
	}
	return l
}

// long: a key of so many bytes, which begins with that letter.
func long(letter string, length int) string {
	return strings.Repeat(letter, length)
}

// wideOnes: nodes that are wide, of each number of keys, and at each edge of what stands in one.
func wideOnes() []api.Node {
	l := []api.Node{
		leaf("\x00", "\x00\x00", "\x00\x01", "\x01"),
		leaf("a", "a\x00", "ab", "b", "\x7f", "\x80", "\xff", "\xff\xff"),
		inner("\x00", "\x7f", "\x80", "\xff", "\xff\xff"),
		{Kind: api.NodeLeaf, Keys: []string{"k"}, Values: []string{""}},
		{Kind: api.NodeLeaf, Keys: []string{long("k", 40)}, Values: []string{long("v", 40)}},
		{Kind: api.NodeInner, Keys: []string{"k"}, Kids: []int{2, 2}},
		{Kind: api.NodeInner, Keys: []string{long("k", 40)}, Kids: []int{65535, 2}},
		{Kind: api.NodeInner, Keys: []string{"é", "€"}, Kids: []int{127, 128, 16384}},
	}
	for count := range 13 {
		l = append(l, leaf(letters(count)...), inner(letters(count+1)...))
		var keys, values []string
		kids := []int{mostKid}
		for _, letter := range letters(count + 1) {
			keys, values, kids = append(keys, long(letter, 40)), append(values, long(letter, 40)), append(kids, mostKid)
		}
		l = append(l, api.Node{Kind: api.NodeLeaf, Keys: keys[:count], Values: values[:count]}, api.Node{Kind: api.NodeInner, Keys: keys, Kids: kids})
	}
	return l
}

// kept: the node, its lists in memory of their own.
func kept(n api.Node) api.Node {
	return api.Node{Kind: n.Kind, Keys: slices.Clone(n.Keys), Values: slices.Clone(n.Values), Kids: slices.Clone(n.Kids)}
}

// spoil: nodes with one thing of it another one: those that are none, or not wide any more, and some that still are.
func spoil(n api.Node, yield func(api.Node)) {
	change := func(do func(n *api.Node)) {
		x := kept(n)
		do(&x)
		yield(x)
	}
	for _, kind := range []api.NodeKind{0, 1, 2, 3, 4, 128, 255} {
		change(func(n *api.Node) { n.Kind = kind })
	}
	keys := []string{"", "\x00", "A", "b", "c", "zz", "\xff", long("f", 39), long("f", 40), long("f", 41), long("\xff", 256), long("f", 65536)}
	for i := range n.Keys {
		for _, key := range keys {
			change(func(n *api.Node) { n.Keys[i] = key })
		}
		for _, more := range keys[:8] {
			change(func(n *api.Node) { n.Keys[i] += more })
		}
		for j := range n.Keys {
			change(func(n *api.Node) { n.Keys[i], n.Keys[j] = n.Keys[j], n.Keys[i] })
			change(func(n *api.Node) { n.Keys[i] = n.Keys[j] })
		}
		change(func(n *api.Node) { n.Keys = slices.Delete(n.Keys, i, i+1) })
	}
	great := long("v", 65536+1)
	for i := range n.Values {
		for _, length := range []int{0, 1, 39, 40, 41, 42, 255, 256, 257, 65536 + 1} {
			change(func(n *api.Node) { n.Values[i] = great[:length] })
		}
		change(func(n *api.Node) { n.Values = slices.Delete(n.Values, i, i+1) })
	}
	for i := range n.Kids {
		for _, kid := range []int{math.MinInt, math.MinInt32, -65536, -1, 0, 1, 2, 3, 65534, 65535, 65536, 65537, 65536 + 9, math.MaxInt32, math.MaxInt - 1, math.MaxInt} {
			change(func(n *api.Node) { n.Kids[i] = kid })
		}
		change(func(n *api.Node) { n.Kids = slices.Delete(n.Kids, i, i+1) })
	}
	change(func(n *api.Node) { n.Keys = append(n.Keys, "zzz") })
	change(func(n *api.Node) { n.Values = append(n.Values, "zzz") })
	change(func(n *api.Node) { n.Kids = append(n.Kids, 9) })
	change(func(n *api.Node) { n.Keys, n.Values = append(n.Keys, "zzz"), append(n.Values, "zzz") })
	change(func(n *api.Node) { n.Keys, n.Kids = append(n.Keys, "zzz"), append(n.Kids, 9) })
	change(func(n *api.Node) { n.Keys = nil })
	change(func(n *api.Node) { n.Values = nil })
	change(func(n *api.Node) { n.Kids = nil })
	change(func(n *api.Node) { n.Keys, n.Values, n.Kids = nil, nil, nil })
	change(func(n *api.Node) { n.Keys, n.Values, n.Kids = n.Keys[:0], []string{}, []int{} })
	change(func(n *api.Node) { n.Kids = []int{} })
	change(func(n *api.Node) { n.Values = []string{} })
}

// anyNodes: the wide ones, and each of them spoilt.
func anyNodes(yield func(api.Node)) {
	yield(api.Node{})
	for _, n := range wideOnes() {
		yield(n)
		spoil(n, yield)
	}
	for count := 12; count < 30; count++ {
		yield(leaf(letters(count)...))
		yield(inner(letters(count)...))
	}
}

// someKeys: keys below, at, between and above those of the nodes, and what may be none.
func someKeys() []string {
	l := append(letters(16), "", "\x00", "A", "a\x00", "aa", "bb", "f0", "g\xff", "zz", "\x7f", "\x80", "\xff", "\xff\xff", "é")
	for _, length := range []int{2, 39, 40, 41, 256, 257} {
		l = append(l, long("a", length), long("f", length), long("\xff", length))
	}
	return l
}

// eachRow: each row of that many of these bytes.
func eachRow(few []byte, length int, yield func([]byte)) {
	row := make([]byte, length)
	var fill func(at int)
	fill = func(at int) {
		if at == length {
			yield(row)
			return
		}
		for _, c := range few {
			row[at] = c
			fill(at + 1)
		}
	}
	fill(0)
}
