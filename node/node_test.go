package node_test

import (
	"bytes"
	"encoding/binary"
	"slices"
	"strings"
	"testing"

	"stook/api"
	"stook/node"
)

// put: the node's bytes, which must be there.
func put(t *testing.T, n api.Node) []byte {
	t.Helper()
	b, e := node.Put(n)
	if e != api.OK {
		t.Fatalf("Put(%v): %v", n, e)
	}
	return b
}

// told: Wide, May and Put say of the node what the words say.
func told(t *testing.T, n api.Node) {
	t.Helper()
	if wide := node.Wide(n); wide != saidWide(n) {
		t.Errorf("Wide(%v) = %t", n, wide)
	}
	if may := node.May(n); may != saidMay(n) {
		t.Errorf("May(%v) = %t", n, may)
	}
	want, why := saidPut(n)
	if b, e := node.Put(n); !bytes.Equal(b, want) || e != why {
		t.Errorf("Put(%v) = %x, %v, not %x, %v", n, b, e, want, why)
	}
}

// getAs: Get says of the bytes what the words say; and what is read is written as the bytes that were read.
func getAs(t *testing.T, kind api.NodeKind, b []byte) {
	t.Helper()
	want, why := saidGet(kind, b)
	n, e := node.Get(kind, b)
	if !same(n, want) || e != why {
		t.Errorf("Get(%d, %x) = %v, %v, not %v, %v", kind, b, n, e, want, why)
	}
	if e != api.OK {
		return
	}
	if again := put(t, n); !bytes.Equal(again, b) {
		t.Errorf("Put of what Get(%d, %x) tells is %x", kind, b, again)
	}
}

// refused: Get tells this error of the bytes, and nothing beside.
func refused(t *testing.T, kind api.NodeKind, b []byte, why api.Errno) {
	t.Helper()
	if n, e := node.Get(kind, b); !none(n) || e != why {
		t.Errorf("Get(%d, %x) = %v, %v, not %v", kind, b, n, e, why)
	}
}

// found: Find and Kid say of the node and the key what the words say.
func found(t *testing.T, n api.Node, key string) {
	t.Helper()
	want, there := saidFind(n, key)
	if i, is := node.Find(n, key); i != want || is != there {
		t.Errorf("Find(%v, %.50q) = %d, %t, not %d, %t", n, key, i, is, want, there)
	}
	if i := node.Kid(n, key); i != saidKid(n, key) {
		t.Errorf("Kid(%v, %.50q) = %d, not %d", n, key, i, saidKid(n, key))
	}
}

// setAs: Set says of the node what the words say.
func setAs(t *testing.T, n api.Node, key, value string) {
	t.Helper()
	want, why := saidSet(n, key, value)
	if m, e := node.Set(n, key, value); !same(m, want) || e != why {
		t.Errorf("Set(%v, %.50q, %.50q) = %v, %v, not %v, %v", n, key, value, m, e, want, why)
	}
}

// cutAs: Cut says of the node what the words say.
func cutAs(t *testing.T, n api.Node, key string) {
	t.Helper()
	want, why := saidCut(n, key)
	if m, e := node.Cut(n, key); !same(m, want) || e != why {
		t.Errorf("Cut(%v, %.50q) = %v, %v, not %v, %v", n, key, m, e, want, why)
	}
}

// partAs: Part says of the node what the words say; and of what it tells, what P18.5 says.
func partAs(t *testing.T, n api.Node) {
	t.Helper()
	wantA, wantSep, wantB, why := saidPart(n)
	a, sep, b, e := node.Part(n)
	if !same(a, wantA) || sep != wantSep || !same(b, wantB) || e != why {
		t.Errorf("Part(%v) = %v, %q, %v, %v, not %v, %q, %v, %v", n, a, sep, b, e, wantA, wantSep, wantB, why)
	}
	if e != api.OK {
		return
	}
	if !node.May(a) || !node.May(b) || len(a.Keys) < 3 || len(b.Keys) < 3 {
		t.Errorf("Part(%v) = %v, %v: they may not be, or are too small", n, a, b)
	}
	if whole, e := node.Join(a, sep, b); !same(whole, n) || e != api.OK {
		t.Errorf("Join of what Part(%v) tells is %v, %v", n, whole, e)
	}
}

// joinAs: Join says of the two what the words say.
func joinAs(t *testing.T, a api.Node, sep string, b api.Node) {
	t.Helper()
	want, why := saidJoin(a, sep, b)
	if n, e := node.Join(a, sep, b); !same(n, want) || e != why {
		t.Errorf("Join(%v, %.50q, %v) = %v, %v, not %v, %v", a, sep, b, n, e, want, why)
	}
}

func TestP18_1Examples(t *testing.T) {
	l := api.Node{Kind: api.NodeLeaf, Keys: []string{"b", "d"}, Values: []string{"1", "2"}}
	if b := put(t, l); !bytes.Equal(b, []byte{2, 1, 0x62, 1, 0x31, 1, 0x64, 1, 0x32}) {
		t.Errorf("Put(L) = %x", b)
	}
	in := api.Node{Kind: api.NodeInner, Keys: []string{"c", long("d", 40)}, Kids: []int{2, 300, 65535}}
	want := slices.Concat([]byte{2, 2, 1, 0x63, 0xac, 2, 40}, []byte(long("d", 40)), []byte{0xff, 0xff, 3})
	if b := put(t, in); !bytes.Equal(b, want) {
		t.Errorf("Put(%v) = %x", in, b)
	}
	if b := put(t, api.Node{Kind: api.NodeLeaf}); !bytes.Equal(b, []byte{0}) {
		t.Errorf("Put of an empty leaf = %x", b)
	}
	for _, n := range []api.Node{l, in, {Kind: api.NodeLeaf}} {
		if m, e := node.Get(n.Kind, put(t, n)); !same(m, n) || e != api.OK {
			t.Errorf("Get(Put(%v)) = %v, %v", n, m, e)
		}
	}
}

func TestP18_1WideAndMay(t *testing.T) {
	for count := range 20 {
		for _, n := range []api.Node{leaf(letters(count)...), inner(letters(count)...)} {
			least, most := 0, 12
			if n.Kind == api.NodeInner {
				least, most = 1, 13
			}
			if wide := node.Wide(n); wide != (count >= least && count <= most) {
				t.Errorf("Wide of one of the kind %d with %d keys: %t", n.Kind, count, wide)
			}
			if may := node.May(n); may != (count >= least && count <= 6) {
				t.Errorf("May of one of the kind %d with %d keys: %t", n.Kind, count, may)
			}
		}
	}
}

func TestP18_1PutAsTheWordsSay(t *testing.T) {
	may, wide, others := 0, 0, 0
	anyNodes(func(n api.Node) {
		switch {
		case saidMay(n):
			may++
		case saidWide(n):
			wide++
		default:
			others++
		}
		told(t, n)
	})
	if may < 500 || wide < 500 || others < 500 {
		t.Errorf("%d may be, %d are wide alone, %d are not: too few to tell", may, wide, others)
	}
}

// One thing of a node is another one, just as it may be and one beyond.
func TestP18_1PutAtEachLimit(t *testing.T) {
	for i, c := range []struct {
		n  api.Node
		is bool
	}{
		{api.Node{}, false},
		{api.Node{Kind: 3}, false},
		{api.Node{Kind: 255, Keys: []string{"a"}, Values: []string{"1"}}, false},
		{api.Node{Kind: 1}, true},
		{api.Node{Kind: 1, Keys: []string{}, Values: []string{}, Kids: []int{}}, true},
		{api.Node{Kind: 1, Keys: []string{"a"}}, false},
		{api.Node{Kind: 1, Values: []string{"1"}}, false},
		{api.Node{Kind: 1, Keys: []string{"a"}, Values: []string{"1"}}, true},
		{api.Node{Kind: 1, Keys: []string{"a"}, Values: []string{"1", "2"}}, false},
		{api.Node{Kind: 1, Keys: []string{"a"}, Values: []string{"1"}, Kids: []int{2}}, false},
		{api.Node{Kind: 1, Keys: []string{""}, Values: []string{"1"}}, false},
		{api.Node{Kind: 1, Keys: []string{long("a", 40)}, Values: []string{long("1", 40)}}, true},
		{api.Node{Kind: 1, Keys: []string{long("a", 41)}, Values: []string{"1"}}, false},
		{api.Node{Kind: 1, Keys: []string{"a"}, Values: []string{long("1", 41)}}, false},
		{api.Node{Kind: 1, Keys: []string{"a", "a"}, Values: []string{"1", "1"}}, false},
		{api.Node{Kind: 1, Keys: []string{"b", "a"}, Values: []string{"1", "1"}}, false},
		{api.Node{Kind: 1, Keys: []string{"a", "aa"}, Values: []string{"1", "1"}}, true},
		{api.Node{Kind: 1, Keys: []string{"aa", "a"}, Values: []string{"1", "1"}}, false},
		{api.Node{Kind: 1, Keys: []string{"\x7f", "\x80"}, Values: []string{"1", "1"}}, true},
		{api.Node{Kind: 1, Keys: []string{"a", "c", "b"}, Values: []string{"1", "1", "1"}}, false},
		{api.Node{Kind: 2}, false},
		{api.Node{Kind: 2, Kids: []int{2}}, false},
		{api.Node{Kind: 2, Keys: []string{"a"}, Kids: []int{2}}, false},
		{api.Node{Kind: 2, Keys: []string{"a"}, Kids: []int{2, 3}}, true},
		{api.Node{Kind: 2, Keys: []string{"a"}, Kids: []int{3, 2}}, true},
		{api.Node{Kind: 2, Keys: []string{"a"}, Kids: []int{2, 3, 4}}, false},
		{api.Node{Kind: 2, Keys: []string{"a"}, Values: []string{"1"}, Kids: []int{2, 3}}, false},
		{api.Node{Kind: 2, Keys: []string{""}, Kids: []int{2, 3}}, false},
		{api.Node{Kind: 2, Keys: []string{"a", "a"}, Kids: []int{2, 3, 4}}, false},
		{api.Node{Kind: 2, Keys: []string{"a"}, Kids: []int{1, 3}}, false},
		{api.Node{Kind: 2, Keys: []string{"a"}, Kids: []int{2, 1}}, false},
		{api.Node{Kind: 2, Keys: []string{"a"}, Kids: []int{65535, 65535}}, true},
		{api.Node{Kind: 2, Keys: []string{"a"}, Kids: []int{65536, 65535}}, false},
		{api.Node{Kind: 2, Keys: []string{"a"}, Kids: []int{65535, 65536}}, false},
		{api.Node{Kind: 2, Keys: []string{"a"}, Kids: []int{-2, 65535}}, false},
	} {
		b, e := node.Put(c.n)
		if (e == api.OK) != c.is || (e == api.ErrArg) == c.is || (b == nil) == c.is {
			t.Errorf("%d: Put(%v) = %x, %v", i, c.n, b, e)
		}
		if node.May(c.n) != c.is || node.Wide(c.n) != c.is {
			t.Errorf("%d: May(%v), Wide: %t, %t", i, c.n, node.May(c.n), node.Wide(c.n))
		}
		told(t, c.n)
	}
}

// A kind that is none comes ahead of all that is wrong with the bytes.
func TestP18_1GetOfOtherKinds(t *testing.T) {
	for kind := range 256 {
		if kind == 1 || kind == 2 {
			continue
		}
		for _, b := range [][]byte{nil, {0}, {7}, {0x80}, {0x80, 0}, put(t, leaf("a")), put(t, inner("a"))} {
			refused(t, api.NodeKind(kind), b, api.ErrArg)
		}
	}
}

func TestP18_1GetAtEachError(t *testing.T) {
	rowOf := func(text string) string { return string(counted(nil, text)) }
	nine := strings.Repeat("\xff", 9)
	for i, c := range []struct {
		kind api.NodeKind
		b    string
		e    api.Errno
	}{
		// The number of keys.
		{1, "", api.ErrShort}, {2, "", api.ErrShort},
		{1, "\x80", api.ErrShort}, {1, "\x80\x00", api.ErrForm}, {2, "\x81\x00", api.ErrForm}, {1, nine + "\x02", api.ErrForm},
		{1, "\x06", api.ErrShort}, {1, "\x07", api.ErrLimit}, {2, "\x07", api.ErrLimit}, {2, "\x0d", api.ErrLimit},
		{1, nine + "\x01", api.ErrLimit}, {2, "\x80\x80\x04", api.ErrLimit}, {2, "\x80\x80\x80\x80\x10", api.ErrLimit},
		{1, "\x00", api.OK}, {1, "\x00\x00", api.ErrForm}, {1, "\x00\x80", api.ErrForm},
		// The first kid, also of no keys: what comes first is told first.
		{2, "\x00", api.ErrShort}, {2, "\x00\x80", api.ErrShort}, {2, "\x00\x82\x00", api.ErrForm}, {2, "\x00\x80\x80\x04", api.ErrLimit},
		{2, "\x00\x02", api.ErrForm}, {2, "\x00\x02\x02", api.ErrForm}, {2, "\x01\x80\x80\x04", api.ErrLimit}, {2, "\x01\xff\xff\x03", api.ErrShort},
		{2, "\x01" + nine + "\x01", api.ErrLimit}, {2, "\x01" + nine + "\x02", api.ErrForm},
		{2, "\x01\x00\x01a", api.ErrShort}, {2, "\x01\x00\x01a\x80\x80\x04", api.ErrLimit},
		{2, "\x01\x00\x01a\x02", api.ErrForm}, {2, "\x01\x01\x01a\x02", api.ErrForm}, {2, "\x01\x02\x01a\x02", api.OK},
		{2, "\x01\x02\x01a\x00", api.ErrForm}, {2, "\x01\x02\x01a\x01", api.ErrForm}, {2, "\x01\x02\x01a\xff\xff\x03", api.OK},
		{2, "\x01\x02\x01a\x80\x80\x04", api.ErrLimit}, {2, "\x01\x02\x01a\x02\x00", api.ErrForm}, {2, "\x01\x02\x01a\x82\x00", api.ErrForm},
		// Keys' rows.
		{1, "\x01\x01", api.ErrShort}, {1, "\x01\x29", api.ErrLimit}, {2, "\x01\x02\x29", api.ErrLimit}, {1, "\x01\x28", api.ErrShort},
		{1, "\x01\xa8\x00", api.ErrForm}, {1, "\x01" + rowOf(long("a", 41)) + "\x00", api.ErrLimit}, {1, "\x01" + rowOf(long("a", 40)) + "\x00", api.OK},
		{1, "\x01" + nine + "\x01", api.ErrLimit}, {2, "\x01\x02" + rowOf(long("a", 41)) + "\x02", api.ErrLimit}, {2, "\x01\x02" + rowOf(long("a", 40)) + "\x02", api.OK},
		{1, "\x01\x00\x00", api.ErrForm}, {2, "\x01\x02\x00\x03", api.ErrForm}, {1, "\x01\x00", api.ErrShort}, {1, "\x01\x00\x29", api.ErrLimit},
		// Values' rows.
		{1, "\x01\x01a", api.ErrShort}, {1, "\x01\x01a\x01", api.ErrShort}, {1, "\x01\x01a\x00", api.OK}, {1, "\x01\x01a\x29", api.ErrLimit},
		{1, "\x01\x01a" + rowOf(long("1", 40)), api.OK}, {1, "\x01\x01a" + rowOf(long("1", 41)), api.ErrLimit}, {1, "\x01\x01a\x81\x001", api.ErrForm},
		// Keys that do not rise; a thing behind that leb refuses comes ahead of them.
		{1, "\x02\x01a\x00\x01b\x00", api.OK}, {1, "\x02\x01b\x00\x01a\x00", api.ErrForm}, {1, "\x02\x01a\x00\x01a\x00", api.ErrForm},
		{1, "\x02\x01b\x00\x01a", api.ErrShort}, {1, "\x02\x01b\x00\x01a\x29", api.ErrLimit}, {1, "\x02\x01\x7f\x00\x01\x80\x00", api.OK},
		{2, "\x02\x02\x01a\x02\x01b\x02", api.OK}, {2, "\x02\x02\x01b\x02\x01a\x02", api.ErrForm}, {2, "\x02\x02\x01a\x02\x01a\x02", api.ErrForm},
		{2, "\x02\x02\x01b\x02\x01a\x80\x80\x04", api.ErrLimit},
	} {
		if n, e := node.Get(c.kind, []byte(c.b)); e != c.e || none(n) != (e != api.OK) {
			t.Errorf("%d: Get(%d, %x) = %v, %v, not %v", i, c.kind, c.b, n, e, c.e)
		}
		getAs(t, c.kind, []byte(c.b))
	}
}

// Bytes of nodes that are cut, have a byte behind, have one of them another one, or are read as of the other kind.
func TestP18_1GetOfNearBytes(t *testing.T) {
	for _, n := range wideOnes() {
		if !saidMay(n) {
			continue
		}
		b := put(t, n)
		getAs(t, n.Kind, b)
		getAs(t, 3-n.Kind, b)
		for size := range b {
			refused(t, n.Kind, b[:size], api.ErrShort)
			getAs(t, 3-n.Kind, b[:size])
			getAs(t, n.Kind, b[size+1:])
		}
		for c := range 256 {
			refused(t, n.Kind, append(bytes.Clone(b), byte(c)), api.ErrForm)
			getAs(t, n.Kind, append([]byte{byte(c)}, b...))
		}
		refused(t, n.Kind, append(bytes.Clone(b), b...), api.ErrForm)
		refused(t, n.Kind, append(bytes.Clone(b), make([]byte, 496-len(b))...), api.ErrForm)
		for at := range b {
			for change := 1; change < 256; change += 1 + at/40 {
				near := bytes.Clone(b)
				near[at] ^= byte(change)
				getAs(t, n.Kind, near)
			}
		}
	}
}

// Bytes laid as a node's, of nodes that may not be, and with another number of keys than there are.
func TestP18_1GetOfNodesThatMayNotBe(t *testing.T) {
	right, wrong := 0, 0
	anyNodes(func(n api.Node) {
		switch n.Kind {
		case api.NodeLeaf:
			n.Kids = nil
			n.Keys = n.Keys[:min(len(n.Keys), len(n.Values))]
			n.Values = n.Values[:len(n.Keys)]
		case api.NodeInner:
			n.Values = nil
			n.Keys = n.Keys[:min(len(n.Keys), max(0, len(n.Kids)-1))]
			n.Kids = n.Kids[:min(len(n.Kids), len(n.Keys)+1)]
		default:
			return
		}
		for _, b := range [][]byte{laid(n, uint64(len(n.Keys))), laid(n, uint64(len(n.Keys)+1)), laid(n, uint64(max(0, len(n.Keys)-1)))} {
			if _, e := saidGet(n.Kind, b); e == api.OK {
				right++
			} else {
				wrong++
			}
			getAs(t, n.Kind, b)
		}
	})
	if right < 500 || wrong < 500 {
		t.Errorf("%d nodes' bytes, %d others: too few to tell", right, wrong)
	}
}

func TestP18_1GetAsTheWordsSay(t *testing.T) {
	got := map[api.Errno]int{}
	check := func(row []byte) {
		for _, kind := range []api.NodeKind{1, 2} {
			_, e := node.Get(kind, row)
			got[e]++
			getAs(t, kind, row)
		}
	}
	for length := range 9 {
		few := []byte{0, 1, 2, 3, 6, 7, 40, 41, 0x80, 0xff}
		switch {
		case length > 6:
			few = []byte{0, 1, 2, 3}
		case length > 5:
			few = []byte{0, 1, 2, 3, 41, 0x80}
		}
		eachRow(few, length, check)
	}
	c := &chance{1}
	for range 20000 {
		row := []byte(c.text(c.below(40)))
		for i := range row {
			// Small ones for the most part: they are the numbers of rows and of keys.
			if c.below(4) > 0 {
				row[i] %= 4
			}
		}
		check(row)
	}
	for _, e := range []api.Errno{api.OK, api.ErrLimit, api.ErrShort, api.ErrForm} {
		if got[e] < 200 {
			t.Errorf("%d rows have the error %d: too few to tell", got[e], e)
		}
	}
}

// Numbers in another form than their one, at each place of a node.
func TestP18_1GetOfLongerNumbers(t *testing.T) {
	longer := func(n uint64) []byte {
		b := binary.AppendUvarint(nil, n)
		b[len(b)-1] |= 0x80
		return append(b, 0)
	}
	for _, b := range [][]byte{
		slices.Concat(longer(1), []byte{1, 'a', 1, '1'}),
		slices.Concat([]byte{1}, longer(1), []byte{'a', 1, '1'}),
		slices.Concat([]byte{1, 1, 'a'}, longer(1), []byte{'1'}),
	} {
		refused(t, api.NodeLeaf, b, api.ErrForm)
	}
	for _, b := range [][]byte{
		slices.Concat(longer(1), []byte{2, 1, 'a', 3}),
		slices.Concat([]byte{1}, longer(2), []byte{1, 'a', 3}),
		slices.Concat([]byte{1, 2}, longer(1), []byte{'a', 3}),
		slices.Concat([]byte{1, 2, 1, 'a'}, longer(3)),
	} {
		refused(t, api.NodeInner, b, api.ErrForm)
	}
}

func TestP18_2Examples(t *testing.T) {
	l := api.Node{Kind: api.NodeLeaf, Keys: []string{"b", "d"}, Values: []string{"1", "2"}}
	in := api.Node{Kind: api.NodeInner, Keys: []string{"c"}, Kids: []int{2, 3}}
	for _, c := range []struct {
		key       string
		below     int
		is        bool
		notAbove  int
		kidOfLeaf int
	}{
		{"", 0, false, 0, 0}, {"a", 0, false, 0, 0}, {"b", 0, true, 0, 1}, {"c", 1, false, 1, 1}, {"c\x00", 1, false, 1, 1},
		{"d", 1, true, 1, 2}, {"d0", 2, false, 1, 2}, {"z", 2, false, 1, 2}, {"\xff", 2, false, 1, 2},
	} {
		if i, is := node.Find(l, c.key); i != c.below || is != c.is {
			t.Errorf("Find(L, %q) = %d, %t", c.key, i, is)
		}
		if i := node.Kid(in, c.key); i != c.notAbove {
			t.Errorf("Kid(an inner one of the key c, %q) = %d", c.key, i)
		}
		if i := node.Kid(l, c.key); i != c.kidOfLeaf {
			t.Errorf("Kid(L, %q) = %d", c.key, i)
		}
	}
}

// Of any node: those that are none, too, whose keys do not rise, or which are more than may be.
func TestP18_2AsTheWordsSay(t *testing.T) {
	keys := someKeys()
	anyNodes(func(n api.Node) {
		for _, key := range keys {
			found(t, n, key)
		}
	})
	for bits := range 1 << 12 {
		for _, key := range append(letters(13), "", "ab", "f0") {
			found(t, leaf(chosen(bits)...), key)
			found(t, inner(chosen(bits)...), key)
		}
	}
	found(t, api.Node{}, "")
	found(t, api.Node{Keys: []string{""}}, "")
	found(t, api.Node{Keys: []string{"", ""}}, "")
	many := api.Node{Kind: 9}
	for i := range 3000 {
		many.Keys = append(many.Keys, string(rune('a'+i%20)))
	}
	for _, key := range keys {
		found(t, many, key)
	}
}

// Rows of keys that are in no order, and the same ones more than once.
func TestP18_2OfKeysInNoOrder(t *testing.T) {
	there := 0
	for length := range 6 {
		eachRow([]byte("abcd"), length, func(row []byte) {
			n := api.Node{Kind: api.NodeKind(length % 4)}
			for _, c := range row {
				n.Keys = append(n.Keys, string(rune(c)))
			}
			for _, key := range []string{"", "a", "aa", "b", "c", "d", "e"} {
				found(t, n, key)
				if _, is := node.Find(n, key); is {
					there++
				}
			}
		})
	}
	if there < 200 {
		t.Errorf("%d were there: too few to tell", there)
	}
}

func TestP18_3Examples(t *testing.T) {
	l := api.Node{Kind: api.NodeLeaf, Keys: []string{"b", "d"}, Values: []string{"1", "2"}}
	if m, e := node.Set(l, "c", "9"); !slices.Equal(m.Keys, []string{"b", "c", "d"}) || !slices.Equal(m.Values, []string{"1", "9", "2"}) || e != api.OK {
		t.Errorf("Set(L, c, 9) = %v, %v", m, e)
	}
	if m, e := node.Set(l, "d", "9"); !slices.Equal(m.Keys, []string{"b", "d"}) || !slices.Equal(m.Values, []string{"1", "9"}) || e != api.OK {
		t.Errorf("Set(L, d, 9) = %v, %v", m, e)
	}
	if m, e := node.Cut(l, "b"); !slices.Equal(m.Keys, []string{"d"}) || !slices.Equal(m.Values, []string{"2"}) || e != api.OK {
		t.Errorf("Cut(L, b) = %v, %v", m, e)
	}
	if m, e := node.Cut(l, "c"); !none(m) || e != api.ErrNone {
		t.Errorf("Cut(L, c) = %v, %v", m, e)
	}
	if m, e := node.Set(l, "", "1"); !none(m) || e != api.ErrArg {
		t.Errorf("Set(L, empty, 1) = %v, %v", m, e)
	}
}

// Each leaf of some of 14 letters, each key set and cut in it.
func TestP18_3OfEachLeaf(t *testing.T) {
	for bits := range 1 << 14 {
		n := leaf(chosen(bits)...)
		keys := letters(14)
		if bits%9 == 0 {
			keys = append(keys, "", "\x00", "aa", "gg", "zz")
		}
		for _, key := range keys {
			setAs(t, n, key, "new")
			cutAs(t, n, key)
		}
	}
}

// Also of nodes that are no wide leaves: ErrArg, whatever the key is.
func TestP18_3AsTheWordsSay(t *testing.T) {
	keys := []string{"", "\x00", "a", "c", "ff", "zz", "\xff\xff", long("a", 40), long("f", 40), long("f", 41), long("\xff", 40), long("a", 257)}
	anyNodes(func(n api.Node) {
		for _, key := range keys {
			setAs(t, n, key, "")
			cutAs(t, n, key)
		}
		for _, length := range []int{1, 40, 41, 256, 65536} {
			setAs(t, n, "f", long("v", length))
		}
	})
}

func TestP18_3ErrorsInTheirOrder(t *testing.T) {
	full := leaf(letters(12)...)
	for i, c := range []struct {
		n          api.Node
		key, value string
		set, cut   api.Errno
	}{
		{full, "z", "", api.ErrLimit, api.ErrNone},
		{full, "", "", api.ErrArg, api.ErrNone},
		{full, long("a", 40), "", api.ErrLimit, api.ErrNone},
		{full, long("a", 41), "", api.ErrArg, api.ErrNone},
		{full, "z", long("v", 40), api.ErrLimit, api.ErrNone},
		{full, "z", long("v", 41), api.ErrArg, api.ErrNone},
		{full, "a", long("v", 40), api.OK, api.OK},
		{full, "a", long("v", 41), api.ErrArg, api.OK},
		{full, "l", "", api.OK, api.OK},
		{leaf(letters(11)...), "l", "", api.OK, api.ErrNone},
		{leaf(letters(13)...), "a", "", api.ErrArg, api.ErrArg},
		{leaf(letters(13)...), "z", "", api.ErrArg, api.ErrArg},
		{leaf(), "a", "", api.OK, api.ErrNone},
		{leaf(), "", "", api.ErrArg, api.ErrNone},
		{inner("a"), "a", "", api.ErrArg, api.ErrArg},
		{inner("a"), "b", "", api.ErrArg, api.ErrArg},
		{inner("a"), "", "", api.ErrArg, api.ErrArg},
		{api.Node{}, "a", "", api.ErrArg, api.ErrArg},
		{api.Node{Kind: 3, Keys: []string{"a"}, Values: []string{"a"}}, "a", "", api.ErrArg, api.ErrArg},
		{api.Node{Kind: 1, Keys: []string{"a"}}, "a", "", api.ErrArg, api.ErrArg},
		{api.Node{Kind: 1, Keys: []string{"b", "a"}, Values: []string{"1", "2"}}, "a", "", api.ErrArg, api.ErrArg},
	} {
		if m, e := node.Set(c.n, c.key, c.value); e != c.set || none(m) != (e != api.OK) {
			t.Errorf("%d: Set(%v, %q, %q) = %v, %v, not %v", i, c.n, c.key, c.value, m, e, c.set)
		}
		if m, e := node.Cut(c.n, c.key); e != c.cut || none(m) != (e != api.OK) {
			t.Errorf("%d: Cut(%v, %q) = %v, %v, not %v", i, c.n, c.key, m, e, c.cut)
		}
	}
}

func TestP18_4Examples(t *testing.T) {
	a, sep, b, e := node.Part(leaf(letters(7)...))
	if !slices.Equal(a.Keys, letters(4)) || sep != "e" || !slices.Equal(b.Keys, []string{"e", "f", "g"}) || e != api.OK {
		t.Errorf("Part of a leaf of a to g: %v, %q, %v, %v", a, sep, b, e)
	}
	if n, e := node.Join(leaf("a"), "b", leaf("a")); !none(n) || e != api.ErrArg {
		t.Errorf("Join(leaf a, b, leaf a) = %v, %v", n, e)
	}
	in := inner(letters(7)...)
	a, sep, b, e = node.Part(in)
	if !slices.Equal(a.Keys, letters(3)) || sep != "d" || !slices.Equal(b.Keys, []string{"e", "f", "g"}) || e != api.OK {
		t.Errorf("Part of an inner one of a to g: %v, %q, %v, %v", a, sep, b, e)
	}
	if !slices.Equal(a.Kids, in.Kids[:4]) || !slices.Equal(b.Kids, in.Kids[4:]) {
		t.Errorf("Part of the kids %v: %v, %v", in.Kids, a.Kids, b.Kids)
	}
}

// How many keys the two have.
func TestP18_4HowManyKeys(t *testing.T) {
	for _, c := range []struct{ count, leafA, leafB, innerA, innerB int }{
		{7, 4, 3, 3, 3}, {8, 4, 4, 4, 3}, {9, 5, 4, 4, 4}, {10, 5, 5, 5, 4}, {11, 6, 5, 5, 5}, {12, 6, 6, 6, 5}, {13, 0, 0, 6, 6},
	} {
		a, _, b, _ := node.Part(leaf(letters(c.count)...))
		if len(a.Keys) != c.leafA || len(b.Keys) != c.leafB || len(a.Values) != c.leafA || len(b.Values) != c.leafB {
			t.Errorf("Part of a leaf of %d keys: %v, %v", c.count, a, b)
		}
		a, sep, b, e := node.Part(inner(letters(c.count)...))
		if len(a.Keys) != c.innerA || len(b.Keys) != c.innerB || len(a.Kids) != c.innerA+1 || len(b.Kids) != c.innerB+1 || e != api.OK {
			t.Errorf("Part of an inner one of %d keys: %v, %v, %v", c.count, a, b, e)
		}
		if !slices.Equal(slices.Concat(a.Keys, []string{sep}, b.Keys), letters(c.count)) {
			t.Errorf("Part of an inner one of %d keys: %v, %q, %v", c.count, a, sep, b)
		}
	}
}

func TestP18_4PartAsTheWordsSay(t *testing.T) {
	parted := 0
	check := func(n api.Node) {
		if _, _, _, e := node.Part(n); e == api.OK {
			parted++
		}
		partAs(t, n)
	}
	anyNodes(check)
	for bits := range 1 << 14 {
		check(leaf(chosen(bits)...))
		check(inner(chosen(bits)...))
	}
	if parted < 10000 {
		t.Errorf("%d were parted: too few to tell", parted)
	}
}

// Each two nodes of some of five letters, with each separator.
func TestP18_4JoinOfEachTwo(t *testing.T) {
	joined := 0
	for first := range 1 << 5 {
		for second := range 1 << 5 {
			for _, sep := range append(letters(6), "", "\x00", "aa", "c0", "zz", long("c", 40), long("c", 41)) {
				a, b := chosen(first), chosen(second)
				joinAs(t, leaf(a...), sep, leaf(b...))
				joinAs(t, inner(a...), sep, inner(b...))
				joinAs(t, leaf(a...), sep, inner(b...))
				joinAs(t, inner(a...), sep, leaf(b...))
				if _, e := node.Join(inner(a...), sep, inner(b...)); e == api.OK {
					joined++
				}
			}
		}
	}
	if joined < 50 {
		t.Errorf("%d inner ones were joined: too few to tell", joined)
	}
}

// Each two numbers of keys, also those that make too many.
func TestP18_4JoinOfEachTwoNumbers(t *testing.T) {
	for first := range 15 {
		for second := range 15 {
			keys := letters(first + second + 1)
			a, sep, b := keys[:first], keys[first], keys[first+1:]
			n, e := node.Join(leaf(a...), sep, leaf(b...))
			if fits := first+second <= 12; fits != (e == api.OK) || fits == (e == api.ErrArg) || len(n.Keys) != len(n.Values) {
				t.Errorf("Join of leaves of %d and %d keys: %v, %v", first, second, n, e)
			}
			n, e = node.Join(inner(a...), sep, inner(b...))
			if fits := first > 0 && second > 0 && first+second <= 12; fits != (e == api.OK) || fits == (e == api.ErrArg) || fits && len(n.Kids) != len(n.Keys)+1 {
				t.Errorf("Join of inner ones of %d and %d keys: %v, %v", first, second, n, e)
			}
			joinAs(t, leaf(a...), sep, leaf(b...))
			joinAs(t, inner(a...), sep, inner(b...))
			joinAs(t, leaf(keys[:first+1]...), sep, leaf(b...))
			joinAs(t, leaf(a...), sep, leaf(keys[first:]...))
			joinAs(t, inner(keys[:first+1]...), sep, inner(b...))
			joinAs(t, inner(a...), sep, inner(keys[first:]...))
		}
	}
}

// Also of nodes that are not wide, on either side.
func TestP18_4JoinAsTheWordsSay(t *testing.T) {
	few := []api.Node{{}, leaf(), leaf("zzzz"), leaf("\x00"), inner("zzzz"), inner("\x00"), leaf(letters(12)...), {Kind: 3}, {Kind: 1, Keys: []string{"zzzz"}}}
	anyNodes(func(n api.Node) {
		for _, other := range few {
			for _, sep := range []string{"", "\x00", "f", "zzz", "zzzz", long("\xff", 41)} {
				joinAs(t, n, sep, other)
				joinAs(t, other, sep, n)
			}
		}
	})
}

func TestP18_5GetOfPutAndItsSize(t *testing.T) {
	most, whole := 0, 0
	check := func(n api.Node) {
		if !saidMay(n) {
			return
		}
		b := put(t, n)
		most = max(most, len(b))
		whole++
		if m, e := node.Get(n.Kind, b); !same(m, n) || e != api.OK {
			t.Errorf("Get(Put(%v)) = %v, %v", n, m, e)
		}
	}
	anyNodes(check)
	c := &chance{2}
	for range 3000 {
		check(someLeaf(c, 6))
	}
	if most > api.MaxBody || most != 493 || whole < 3000 {
		t.Errorf("%d nodes, of at most %d bytes", whole, most)
	}
}

// someLeaf: one of so many keys at most, by chance, of keys and values of each length.
func someLeaf(c *chance, most int) api.Node {
	m := map[string]string{}
	for range c.below(most + 1) {
		m[c.text(1+c.below(40))] = c.text(c.below(41))
	}
	return leafOf(m)
}

// A leaf that is set and cut has what a map has; one that is too wide is parted, and joined again.
func TestP18_5AsAMap(t *testing.T) {
	for seed := range 60 {
		c := &chance{uint64(seed)}
		n, m := leaf(), map[string]string{}
		for range 200 {
			key := string(rune('a'+c.below(5+seed%16))) + strings.Repeat("x", seed%4)
			if c.below(5) < 3 {
				value := c.text(c.below(41))
				next, e := node.Set(n, key, value)
				_, there := m[key]
				if full := !there && len(m) == 12; full != (e == api.ErrLimit) || full == (e == api.OK) {
					t.Fatalf("Set(%v, %q): %v", n, key, e)
				}
				if e == api.OK {
					n, m[key] = next, value
				}
			} else {
				next, e := node.Cut(n, key)
				if _, there := m[key]; there != (e == api.OK) || there == (e == api.ErrNone) {
					t.Fatalf("Cut(%v, %q): %v", n, key, e)
				}
				if e == api.OK {
					n = next
					delete(m, key)
				}
			}
			if !same(n, leafOf(m)) || !node.Wide(n) {
				t.Fatalf("the leaf is %v, the map %v", n, m)
			}
			partAs(t, n)
		}
	}
}

// Of inner ones: those that Part tells may be, and Join of them is the node, whatever the keys and the kids are.
func TestP18_5PartAndJoinOfAny(t *testing.T) {
	c := &chance{3}
	parted := 0
	for range 2000 {
		n := someLeaf(c, 13)
		partAs(t, n)
		n.Kind, n.Values = api.NodeInner, nil
		for range len(n.Keys) + 1 {
			n.Kids = append(n.Kids, 2+c.below(65534))
		}
		partAs(t, n)
		if node.Wide(n) && len(n.Keys) > 6 {
			parted++
		}
	}
	if parted < 500 {
		t.Errorf("%d were parted: too few to tell", parted)
	}
}

// roomy: the node, its lists with room behind them, in which something stands.
func roomy(n api.Node) api.Node {
	return api.Node{
		Kind:   n.Kind,
		Keys:   append(slices.Clone(n.Keys), "k1", "k2", "k3")[:len(n.Keys)],
		Values: append(slices.Clone(n.Values), "v1", "v2", "v3")[:len(n.Values)],
		Kids:   append(slices.Clone(n.Kids), 901, 902, 903)[:len(n.Kids)],
	}
}

// stays: the node of roomy is as it was, the room behind its lists too.
func stays(t *testing.T, call string, got, n api.Node) {
	t.Helper()
	whole := api.Node{
		Kind:   got.Kind,
		Keys:   got.Keys[:len(got.Keys)+3],
		Values: got.Values[:len(got.Values)+3],
		Kids:   got.Kids[:len(got.Kids)+3],
	}
	want := api.Node{
		Kind:   n.Kind,
		Keys:   append(slices.Clone(n.Keys), "k1", "k2", "k3"),
		Values: append(slices.Clone(n.Values), "v1", "v2", "v3"),
		Kids:   append(slices.Clone(n.Kids), 901, 902, 903),
	}
	if !same(whole, want) {
		t.Fatalf("%s: %v is %v behind it", call, want, whole)
	}
}

// fill: writes over the node's lists, the room behind them too.
func fill(n api.Node) {
	for _, list := range [][]string{n.Keys[:cap(n.Keys)], n.Values[:cap(n.Values)]} {
		for i := range list {
			list[i] = "spoilt"
		}
	}
	kids := n.Kids[:cap(n.Kids)]
	for i := range kids {
		kids[i] = -7
	}
}

// What is handed in stays, and what is answered is memory of its own.
func TestP18_3AnswersShareNoMemory(t *testing.T) {
	for _, n := range wideOnes() {
		for _, key := range append([]string{"c", "zz", "\x00a"}, n.Keys...) {
			in := roomy(n)
			first, _ := node.Set(in, key, "new")
			want := kept(first)
			second, _ := node.Set(in, key, "new")
			stays(t, "Set", in, n)
			fill(first)
			stays(t, "what Set answered was written over", in, n)
			if !same(second, want) {
				t.Fatalf("two answers of Set(%v, %q) share memory", n, key)
			}
			first, _ = node.Cut(in, key)
			want = kept(first)
			second, _ = node.Cut(in, key)
			stays(t, "Cut", in, n)
			fill(first)
			stays(t, "what Cut answered was written over", in, n)
			if !same(second, want) {
				t.Fatalf("two answers of Cut(%v, %q) share memory", n, key)
			}
		}
	}
}

func TestP18_4AnswersShareNoMemory(t *testing.T) {
	for _, n := range wideOnes() {
		in := roomy(n)
		a, sep, b, e := node.Part(in)
		stays(t, "Part", in, n)
		if e != api.OK {
			continue
		}
		wantA, wantB := kept(a), kept(b)
		whole, _ := node.Join(roomy(a), sep, roomy(b))
		fill(a)
		if !same(b, wantB) {
			t.Fatalf("the two that Part(%v) answers share memory", n)
		}
		fill(b)
		stays(t, "what Part answered was written over", in, n)
		firstIn, secondIn := roomy(wantA), roomy(wantB)
		again, _ := node.Join(firstIn, sep, secondIn)
		if !same(again, whole) || !same(whole, n) {
			t.Fatalf("Join of what Part(%v) tells is %v, %v", n, whole, again)
		}
		stays(t, "Join", firstIn, wantA)
		stays(t, "Join", secondIn, wantB)
		fill(again)
		stays(t, "what Join answered was written over", firstIn, wantA)
		stays(t, "what Join answered was written over", secondIn, wantB)
		if !same(whole, n) {
			t.Fatalf("two answers of Join share memory")
		}
	}
}

// Also where there is nothing to put together but one of them.
func TestP18_4JoinWithAnEmptyLeaf(t *testing.T) {
	n := leaf(letters(5)...)
	for i := range 2 {
		in, empty := roomy(n), roomy(leaf())
		whole, e := node.Join(in, "x", empty)
		if i == 1 {
			whole, e = node.Join(empty, "a", in)
		}
		if !same(whole, n) || e != api.OK {
			t.Errorf("Join with an empty leaf: %v, %v", whole, e)
		}
		fill(whole)
		stays(t, "Join", in, n)
		stays(t, "Join", empty, leaf())
	}
	if whole, e := node.Join(leaf(), "a", leaf()); !same(whole, leaf()) || e != api.OK {
		t.Errorf("Join of two empty leaves: %v, %v", whole, e)
	}
}

func TestP18_1AnswersShareNoMemory(t *testing.T) {
	for _, n := range wideOnes() {
		in := roomy(n)
		node.Wide(in)
		node.May(in)
		node.Find(in, "c")
		node.Kid(in, "c")
		first, _ := node.Put(in)
		second, _ := node.Put(in)
		stays(t, "Put", in, n)
		if !saidMay(n) {
			continue
		}
		room := append(bytes.Clone(first), 7, 7, 7)
		b := room[:len(first)]
		clear(first[:cap(first)])
		a, _ := node.Get(n.Kind, b)
		other, _ := node.Get(n.Kind, b)
		if !bytes.Equal(b, second) || !bytes.Equal(room[len(b):], []byte{7, 7, 7}) {
			t.Fatalf("Get(%x) has changed it", second)
		}
		clear(room)
		if !same(a, n) {
			t.Fatalf("Get(%x) shares memory with the bytes", second)
		}
		fill(a)
		if !same(other, n) {
			t.Fatalf("two answers of Get(%x) share memory", second)
		}
	}
}
