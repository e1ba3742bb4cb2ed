package node_test

import (
	"math"
	"reflect"
	"slices"
	"strings"
	"testing"

	"cistern/api"
	"cistern/node"
)

func told(t *testing.T, what string, got, want api.Errno) {
	t.Helper()
	if got != want {
		t.Errorf("%s: %d, not %d", what, got, want)
	}
}

// leaf is a leaf of keys and values, one behind the other.
func leaf(texts ...string) node.Node {
	n := node.Node{Leaf: true}
	for i := 0; i+1 < len(texts); i += 2 {
		n.Pairs = append(n.Pairs, api.Pair{Key: texts[i], Val: texts[i+1]})
	}
	return n
}

// inner is an inner node.
func inner(keys []string, kids ...int) node.Node {
	return node.Node{Keys: keys, Kids: kids}
}

// same: are two nodes one? Nil and empty lists are.
func same(a, b node.Node) bool {
	return a.Leaf == b.Leaf && slices.Equal(a.Pairs, b.Pairs) && slices.Equal(a.Keys, b.Keys) && slices.Equal(a.Kids, b.Kids)
}

func is(t *testing.T, what string, got node.Node, e api.Errno, want node.Node) {
	t.Helper()
	if e != api.OK || !same(got, want) {
		t.Errorf("%s: %v, %d, not %v", what, got, e, want)
	}
}

// nothing asks for an error, and for no node beside it.
func nothing(t *testing.T, what string, got node.Node, e, want api.Errno) {
	t.Helper()
	told(t, what, e, want)
	if !same(got, node.Node{}) {
		t.Errorf("%s: %v beside an error", what, got)
	}
}

// keys tells so many keys of two bytes, rising.
func keys(n int) []string {
	var l []string
	for i := range n {
		l = append(l, string([]byte{byte(i / 100), byte(i % 100)}))
	}
	return l
}

// many is a leaf with so many pairs.
func many(n int) node.Node {
	l := node.Node{Leaf: true}
	for _, k := range keys(n) {
		l.Pairs = append(l.Pairs, api.Pair{Key: k, Val: "v"})
	}
	return l
}

// wide is an inner node with so many kids.
func wide(n int) node.Node {
	l := node.Node{Keys: keys(n - 1)}
	for i := range n {
		l.Kids = append(l.Kids, i+1)
	}
	return l
}

var long = strings.Repeat("k", api.MaxKey)

// inForm are nodes in form.
func inForm() []node.Node {
	return []node.Node{
		leaf(),
		{Leaf: true, Pairs: []api.Pair{}, Keys: []string{}, Kids: []int{}},
		leaf("a", ""),
		leaf("a", "1", "b", "22"),
		leaf("\x00", "\x00\xff", "\xff", ""),
		leaf("a", "", "aa", "", "b", ""),
		leaf("a\x00", "", "ab", ""),
		leaf(long, strings.Repeat("v", api.MaxVal)),
		leaf("\x7f", "", "\x80", ""),
		many(53),
		many(255),
		inner(nil, 1),
		{Pairs: []api.Pair{}, Keys: []string{}, Kids: []int{65535}},
		inner([]string{"b"}, 4, 5),
		inner([]string{"b"}, 5, 5),
		inner([]string{"b"}, 65535, 1),
		inner([]string{"\x00", "\xff"}, 256, 255, 257),
		inner([]string{long}, 1, 2),
		wide(30),
		wide(255),
	}
}

// outOfForm are nodes that aren't.
func outOfForm() []node.Node {
	return []node.Node{
		{},
		leaf("", "1"),
		leaf(long+"k", ""),
		leaf("a", strings.Repeat("v", api.MaxVal+1)),
		leaf("a", "", "a", ""),
		leaf("b", "", "a", ""),
		leaf("a", "", "c", "", "b", ""),
		leaf("aa", "", "a", ""),
		leaf("\x80", "", "\x7f", ""),
		leaf("a", "", "b", strings.Repeat("v", 300)),
		many(256),
		many(600),
		{Leaf: true, Keys: []string{"a"}},
		{Leaf: true, Kids: []int{1}},
		{Leaf: true, Pairs: []api.Pair{{Key: "a"}}, Keys: []string{"a"}, Kids: []int{1, 2}},
		inner(nil),
		inner([]string{"a"}),
		inner([]string{"a"}, 1),
		inner(nil, 1, 2),
		inner([]string{"a"}, 1, 2, 3),
		inner([]string{"a", "b"}, 1, 2),
		inner(nil, 0),
		inner(nil, -1),
		inner(nil, 65536),
		inner(nil, math.MaxInt),
		inner(nil, math.MinInt),
		inner([]string{"a"}, 1, 0),
		inner([]string{"a"}, 65536, 1),
		inner([]string{""}, 1, 2),
		inner([]string{long + "k"}, 1, 2),
		inner([]string{"a", "a"}, 1, 2, 3),
		inner([]string{"b", "a"}, 1, 2, 3),
		{Pairs: []api.Pair{{Key: "a"}}, Kids: []int{1}},
		{Pairs: []api.Pair{{Key: "a"}}},
		wide(256),
	}
}

func TestTheChaptersExamples(t *testing.T) {
	n := leaf("a", "1", "b", "22")
	page := "\x01\x02\x01a\x011\x01b\x0222"
	if s, e := node.Encode(n); s != page || e != api.OK || node.Size(n) != 11 {
		t.Errorf("Encode: %q, %d; Size: %d", s, e, node.Size(n))
	}
	d, e := node.Decode("\x01\x00")
	is(t, "Decode(1, 0)", d, e, leaf())
	d, e = node.Decode("\x02\x00")
	nothing(t, "Decode(2, 0)", d, e, api.ErrForm)
	finds(t, leaf("a", "1", "c", "2"), "b", 1)
	finds(t, inner([]string{"b"}, 4, 5), "b", 1)
	finds(t, inner([]string{"b"}, 4, 5), "a", 0)
	splits(t, leaf("a", "", "b", "", "c", ""), leaf("a", "", "b", ""), "c", leaf("c", ""))
}

func TestForm(t *testing.T) {
	for _, n := range inForm() {
		told(t, "Check", node.Check(n), api.OK)
		if t.Failed() {
			t.Fatal(n)
		}
	}
	for _, n := range outOfForm() {
		told(t, "Check", node.Check(n), api.ErrForm)
		if t.Failed() {
			t.Fatal(n)
		}
	}
}

// What isn't in form is refused by every call, with nothing beside the error.
func TestOutOfFormIsRefused(t *testing.T) {
	for _, n := range outOfForm() {
		if s, e := node.Encode(n); s != "" || e != api.ErrForm {
			t.Errorf("Encode: %q, %d", s, e)
		}
		if i, e := node.Find(n, "b"); i != 0 || e != api.ErrForm {
			t.Errorf("Find: %d, %d", i, e)
		}
		m, e := node.Put(n, api.Pair{Key: "zz", Val: "1"})
		nothing(t, "Put", m, e, api.ErrForm)
		m, e = node.Drop(n, "a")
		nothing(t, "Drop", m, e, api.ErrForm)
		m, e = node.Drop(n, "none")
		nothing(t, "Drop of none", m, e, api.ErrForm)
		a, key, b, e := node.Split(n)
		nothing(t, "Split", a, e, api.ErrForm)
		nothing(t, "Split", b, e, api.ErrForm)
		if key != "" {
			t.Errorf("Split: the key %q beside an error", key)
		}
		for _, other := range []node.Node{leaf("x", ""), inner(nil, 9)} {
			m, e = node.Merge(n, "x", other)
			nothing(t, "Merge", m, e, api.ErrForm)
			m, e = node.Merge(other, "x", n)
			nothing(t, "Merge", m, e, api.ErrForm)
		}
		if t.Failed() {
			t.Fatal(n)
		}
	}
}

func TestSize(t *testing.T) {
	for _, x := range []struct {
		n    node.Node
		want int
	}{
		{node.Node{}, 2},
		{leaf(), 2},
		{leaf("a", ""), 5},
		{leaf("a", "1", "b", "22"), 11},
		{leaf(long, strings.Repeat("v", 48)), 84},
		{many(53), 2 + 53*5},
		{inner(nil, 1), 4},
		{inner([]string{"b"}, 4, 5), 8},
		{inner([]string{long}, 4, 5), 39},
		{wide(255), 2 + 255*2 + 254*3},
		// Not in form: the size counts all the same.
		{leaf("", ""), 4},
		{leaf("b", "", "a", strings.Repeat("v", 300)), 2 + 3 + 303},
		{many(600), 2 + 600*5},
		{wide(600), 2 + 600*2 + 599*3},
		{inner([]string{"a", "b"}, 1), 2 + 2 + 4},
		{inner(nil, -1, 70000), 6},
		{inner([]string{strings.Repeat("k", 300)}), 303},
		{node.Node{Leaf: true, Pairs: []api.Pair{{Key: "a"}}, Keys: []string{"xyz"}, Kids: []int{1, 2}}, 5},
		{node.Node{Pairs: []api.Pair{{Key: "a"}}, Keys: []string{"xyz"}, Kids: []int{1, 2}}, 10},
	} {
		if got := node.Size(x.n); got != x.want {
			t.Errorf("Size(%v): %d, not %d", x.n, got, x.want)
		}
	}
}

// A page is as the chapter writes it down, up to its last byte of room.
func TestPages(t *testing.T) {
	for _, x := range []struct {
		n    node.Node
		page string
	}{
		{leaf(), "\x01\x00"},
		{leaf("a", ""), "\x01\x01\x01a\x00"},
		{leaf("\x00\xff", "\xff"), "\x01\x01\x02\x00\xff\x01\xff"},
		{inner(nil, 1), "\x02\x01\x01\x00"},
		{inner(nil, 65535), "\x02\x01\xff\xff"},
		{inner([]string{"b"}, 4, 5), "\x02\x02\x04\x00\x05\x00\x01b"},
		{inner([]string{"b", "cd"}, 256, 0x1234, 3), "\x02\x03\x00\x01\x34\x12\x03\x00\x01b\x02cd"},
		{leaf(long, strings.Repeat("v", 48)), "\x01\x01\x20" + long + "\x30" + strings.Repeat("v", 48)},
	} {
		if s, e := node.Encode(x.n); s != x.page || e != api.OK {
			t.Errorf("Encode(%v): %q, %d, not %q", x.n, s, e, x.page)
		}
		if len(x.page) != node.Size(x.n) {
			t.Errorf("Size(%v): %d, not %d", x.n, node.Size(x.n), len(x.page))
		}
		d, e := node.Decode(x.page)
		is(t, "Decode", d, e, x.n)
	}
}

func TestBigPages(t *testing.T) {
	full := leaf("a", strings.Repeat("v", 48), "b", strings.Repeat("v", 48), "c", strings.Repeat("v", 48), "d", "")
	full.Pairs[3].Val = strings.Repeat("v", 2)
	if node.Size(full) != 160 {
		t.Fatal(node.Size(full))
	}
	s, e := node.Encode(full)
	told(t, "Encode of 160 bytes", e, api.OK)
	d, e := node.Decode(s)
	is(t, "Decode", d, e, full)
	full.Pairs[3].Val += "v"
	if s, e := node.Encode(full); s != "" || e != api.ErrBig {
		t.Errorf("Encode of 161 bytes: %q, %d", s, e)
	}
	// An inner node of 160 bytes, and of 161.
	in := inner([]string{"a", "b", "c", "d"}, 1, 2, 3, 4, 5)
	for i := range in.Keys {
		in.Keys[i] += strings.Repeat("k", 31)
	}
	in.Keys, in.Kids = append(in.Keys, "e"+strings.Repeat("k", 12)), append(in.Kids, 6)
	if node.Size(in) != 160 {
		t.Fatal(node.Size(in))
	}
	s, e = node.Encode(in)
	told(t, "Encode of 160 bytes", e, api.OK)
	d, e = node.Decode(s)
	is(t, "Decode", d, e, in)
	in.Keys[4] += "k"
	if s, e := node.Encode(in); s != "" || e != api.ErrBig {
		t.Errorf("Encode of 161 bytes: %q, %d", s, e)
	}
	for _, n := range []node.Node{many(255), wide(255)} {
		if s, e := node.Encode(n); s != "" || e != api.ErrBig {
			t.Errorf("Encode of a great one: %q, %d", s, e)
		}
	}
}

// Bytes that no node has.
func TestNoPages(t *testing.T) {
	over := "\x01\x04\x01a\x30" + strings.Repeat("v", 48) + "\x01b\x30" + strings.Repeat("v", 48) +
		"\x01c\x30" + strings.Repeat("v", 48) + "\x01d\x03vvv"
	if len(over) != 161 {
		t.Fatal(len(over))
	}
	for _, s := range []string{
		"", "\x00", "\x01", "\x02", "\x03", "\x00\x00", "\x03\x00", "\xff\x01", "1", "\x02\x00",
		"\x01\x00\x00",                 // a byte too many
		"\x01\x01",                     // no pair
		"\x01\x01\x00\x00",             // an empty key
		"\x01\x01\x01a",                // no value
		"\x01\x01\x01a\x01",            // a value too short
		"\x01\x01\x02a\x00",            // a key too long for what is there
		"\x01\x02\x01a\x00\x01a\x00",   // a key twice
		"\x01\x02\x01b\x00\x01a\x00",   // keys that fall
		"\x01\x01\x01a\x00\x01b\x00",   // a pair too many
		"\x01\xff\x01a\x00",            // pairs too few
		"\x02\x01\x00\x00",             // the kid 0
		"\x02\x01\x01",                 // half a kid
		"\x02\x01\x01\x00\x01a",        // a key too many
		"\x02\x02\x01\x00\x02\x00",     // a key too few
		"\x02\x02\x01\x00\x02\x00\x00", // an empty key
		"\x02\x02\x01\x00\x00\x00\x01a",
		"\x02\x03\x01\x00\x02\x00\x03\x00\x01b\x01a",
		"\x02\x03\x01\x00\x02\x00\x03\x00\x01b\x01b",
		"\x01\x01\x21" + long + "k\x00",
		"\x01\x01\x01a\x31" + strings.Repeat("v", 49),
		"\x02\x02\x01\x00\x02\x00\x21" + long + "k",
		over,
		strings.Repeat("\x01", 161),
		strings.Repeat("\x02", 100000),
	} {
		d, e := node.Decode(s)
		nothing(t, "Decode", d, e, api.ErrForm)
		if t.Failed() {
			t.Fatalf("%q", s)
		}
	}
	// All beginnings of a page, and a page with anything behind it.
	for _, n := range inForm() {
		s, e := node.Encode(n)
		if e != api.OK {
			continue
		}
		for i := range s {
			d, e := node.Decode(s[:i])
			nothing(t, "Decode of a beginning", d, e, api.ErrForm)
		}
		for _, more := range []string{"\x00", "a", "\x01a\x00"} {
			d, e := node.Decode(s + more)
			nothing(t, "Decode of more", d, e, api.ErrForm)
		}
	}
}

func finds(t *testing.T, n node.Node, key string, want int) {
	t.Helper()
	if i, e := node.Find(n, key); i != want || e != api.OK {
		t.Errorf("Find(%v, %q): %d, %d, not %d", n, key, i, e, want)
	}
}

func TestFind(t *testing.T) {
	l := leaf("b", "", "d", "", "d\x00", "")
	in := inner([]string{"b", "d", "d\x00"}, 1, 2, 3, 4)
	for _, x := range []struct {
		key               string
		ofLeaf, ofTheKids int
	}{
		{"", 0, 0}, {"a", 0, 0}, {"azz", 0, 0}, {"b", 0, 1}, {"b\x00", 1, 1}, {"c", 1, 1}, {"d", 1, 2},
		{"d\x00", 2, 3}, {"d\x00\x00", 3, 3}, {"da", 3, 3}, {"\x80", 3, 3}, {strings.Repeat("b", 1000), 1, 1},
	} {
		finds(t, l, x.key, x.ofLeaf)
		finds(t, in, x.key, x.ofTheKids)
	}
	finds(t, leaf(), "a", 0)
	finds(t, inner(nil, 7), "a", 0)
	for i, k := range keys(255) {
		finds(t, many(255), k, i)
		if i < 254 {
			finds(t, wide(255), k, i+1)
		}
	}
}

func TestPut(t *testing.T) {
	l := leaf("b", "1", "d", "2")
	for _, x := range []struct{ key, val string }{{"a", "x"}, {"c", ""}, {"e", "x"}, {"b", ""}, {"d", strings.Repeat("v", 48)}, {long, "x"}} {
		want := map[string]string{"b": "1", "d": "2"}
		want[x.key] = x.val
		n, e := node.Put(l, api.Pair{Key: x.key, Val: x.val})
		is(t, "Put", n, e, ofMap(want))
	}
	n, e := node.Put(leaf(), api.Pair{Key: "a"})
	is(t, "Put into none", n, e, leaf("a", ""))
	for _, p := range []api.Pair{{}, {Key: "", Val: "x"}, {Key: long + "k"}, {Key: "a", Val: strings.Repeat("v", 49)}, {Key: "b", Val: strings.Repeat("v", 49)}} {
		n, e := node.Put(l, p)
		nothing(t, "Put of no pair", n, e, api.ErrForm)
	}
	n, e = node.Put(inner([]string{"b"}, 1, 2), api.Pair{Key: "a"})
	nothing(t, "Put into an inner node", n, e, api.ErrForm)
	// Up to 255 pairs, whether a page has room for them or not.
	n, e = node.Put(many(254), api.Pair{Key: "zz", Val: "v"})
	if e != api.OK || len(n.Pairs) != 255 {
		t.Error(len(n.Pairs), e)
	}
	m, e := node.Put(n, api.Pair{Key: "zzz"})
	nothing(t, "Put of the 256th", m, e, api.ErrForm)
	m, e = node.Put(n, api.Pair{Key: "zz", Val: "other"})
	if e != api.OK || len(m.Pairs) != 255 || m.Pairs[254].Val != "other" {
		t.Error(len(m.Pairs), e)
	}
}

// ofMap is the leaf of what a map holds.
func ofMap(m map[string]string) node.Node {
	n := node.Node{Leaf: true}
	for k, v := range m {
		n.Pairs = append(n.Pairs, api.Pair{Key: k, Val: v})
	}
	slices.SortFunc(n.Pairs, func(a, b api.Pair) int { return strings.Compare(a.Key, b.Key) })
	return n
}

func TestDrop(t *testing.T) {
	l := leaf("a", "1", "b", "2", "c", "3")
	n, e := node.Drop(l, "a")
	is(t, "Drop", n, e, leaf("b", "2", "c", "3"))
	n, e = node.Drop(l, "b")
	is(t, "Drop", n, e, leaf("a", "1", "c", "3"))
	n, e = node.Drop(l, "c")
	is(t, "Drop", n, e, leaf("a", "1", "b", "2"))
	n, e = node.Drop(leaf("a", "1"), "a")
	is(t, "Drop of the last one", n, e, leaf())
	for _, key := range []string{"", "0", "aa", "d", long + "k"} {
		n, e = node.Drop(l, key)
		nothing(t, "Drop", n, e, api.ErrMiss)
		n, e = node.Drop(leaf(), key)
		nothing(t, "Drop", n, e, api.ErrMiss)
	}
	n, e = node.Drop(inner([]string{"b"}, 1, 2), "b")
	nothing(t, "Drop of an inner node", n, e, api.ErrForm)
}

func splits(t *testing.T, n, first node.Node, between string, second node.Node) {
	t.Helper()
	a, key, b, e := node.Split(n)
	if e != api.OK || key != between || !same(a, first) || !same(b, second) {
		t.Errorf("Split(%v): %v, %q, %v, %d", n, a, key, b, e)
	}
}

// of tells a value of so many bytes.
func of(n int) string { return strings.Repeat("v", n) }

func TestSplit(t *testing.T) {
	splits(t, leaf("a", "", "b", ""), leaf("a", ""), "b", leaf("b", ""))
	splits(t, leaf("a", of(48), "b", ""), leaf("a", of(48)), "b", leaf("b", ""))
	// The last pair goes to the second one, however much it takes.
	splits(t, leaf("a", "", "b", of(48)), leaf("a", ""), "b", leaf("b", of(48)))
	splits(t, leaf("a", "", "b", "", "c", of(48)), leaf("a", "", "b", ""), "c", leaf("c", of(48)))
	splits(t, leaf("a", of(48), "b", "", "c", ""), leaf("a", of(48)), "b", leaf("b", "", "c", ""))
	// Just as many bytes are enough; one fewer is not.
	splits(t, leaf("a", of(6), "b", of(1), "c", of(2)), leaf("a", of(6)), "b", leaf("b", of(1), "c", of(2)))
	splits(t, leaf("a", of(5), "b", of(1), "c", of(2)), leaf("a", of(5), "b", of(1)), "c", leaf("c", of(2)))
	// The keys' bytes count as well.
	splits(t, leaf("aaaaaaa", "", "b", "", "c", ""), leaf("aaaaaaa", ""), "b", leaf("b", "", "c", ""))
	splits(t, inner([]string{"a", "b", "c"}, 1, 2, 3, 4), inner([]string{"a"}, 1, 2), "b", inner([]string{"c"}, 3, 4))
	splits(t, inner([]string{"a", "b", "c", "d"}, 1, 2, 3, 4, 5), inner([]string{"a"}, 1, 2), "b", inner([]string{"c", "d"}, 3, 4, 5))
	// Of an inner node the kids are counted, not the bytes.
	splits(t, inner([]string{"a" + of(31), "b" + of(31), "c", "d", "e"}, 1, 2, 3, 4, 5, 6),
		inner([]string{"a" + of(31), "b" + of(31)}, 1, 2, 3), "c", inner([]string{"d", "e"}, 4, 5, 6))
	for _, n := range []node.Node{
		leaf(), leaf("a", "x"), inner(nil, 1), inner([]string{"a"}, 1, 2), inner([]string{"a", "b"}, 1, 2, 3),
	} {
		a, key, b, e := node.Split(n)
		nothing(t, "Split of too little", a, e, api.ErrMiss)
		nothing(t, "Split of too little", b, e, api.ErrMiss)
		if key != "" {
			t.Errorf("Split: the key %q beside an error", key)
		}
	}
}

func TestMerge(t *testing.T) {
	n, e := node.Merge(leaf("a", "1"), "zz", leaf("b", "2", "c", "3"))
	is(t, "Merge", n, e, leaf("a", "1", "b", "2", "c", "3"))
	n, e = node.Merge(leaf(), "k", leaf("b", "2"))
	is(t, "Merge", n, e, leaf("b", "2"))
	n, e = node.Merge(leaf("b", "2"), "a", leaf())
	is(t, "Merge", n, e, leaf("b", "2"))
	n, e = node.Merge(leaf(), long, leaf())
	is(t, "Merge", n, e, leaf())
	n, e = node.Merge(inner(nil, 1), "k", inner(nil, 2))
	is(t, "Merge", n, e, inner([]string{"k"}, 1, 2))
	n, e = node.Merge(inner([]string{"a"}, 1, 2), "b", inner([]string{"c"}, 3, 4))
	is(t, "Merge", n, e, inner([]string{"a", "b", "c"}, 1, 2, 3, 4))
	for _, x := range []struct {
		a   node.Node
		key string
		b   node.Node
	}{
		{leaf("a", ""), "a", leaf("a", "")},
		{leaf("b", ""), "b", leaf("a", "")},
		{leaf("a", ""), "", leaf("b", "")},
		{leaf("a", ""), long + "k", leaf("b", "")},
		{leaf("a", ""), "b", inner(nil, 1)},
		{inner(nil, 1), "b", leaf("a", "")},
		{inner(nil, 1), "", inner(nil, 2)},
		{inner(nil, 1), long + "k", inner(nil, 2)},
		{inner([]string{"a"}, 1, 2), "a", inner([]string{"c"}, 3, 4)},
		{inner([]string{"b"}, 1, 2), "a", inner([]string{"c"}, 3, 4)},
		{inner([]string{"a"}, 1, 2), "c", inner([]string{"c"}, 3, 4)},
		{inner([]string{"a"}, 1, 2), "d", inner([]string{"c"}, 3, 4)},
	} {
		n, e := node.Merge(x.a, x.key, x.b)
		nothing(t, "Merge", n, e, api.ErrForm)
		if t.Failed() {
			t.Fatal(x)
		}
	}
}

// What comes out of Merge has at most 255 pairs or kids.
func TestGreatMerge(t *testing.T) {
	pairs := many(256).Pairs
	kids, between := wide(256).Kids, wide(256).Keys
	for _, at := range []int{0, 1, 100, 128, 254} {
		n, e := node.Merge(node.Node{Leaf: true, Pairs: pairs[:at]}, "k", node.Node{Leaf: true, Pairs: pairs[at:255]})
		is(t, "Merge to 255 pairs", n, e, many(255))
		n, e = node.Merge(node.Node{Leaf: true, Pairs: pairs[:at+1]}, "k", node.Node{Leaf: true, Pairs: pairs[at+1:]})
		nothing(t, "Merge to 256 pairs", n, e, api.ErrForm)
		n, e = node.Merge(inner(between[:at], kids[:at+1]...), between[at], inner(between[at+1:], kids[at+1:]...))
		nothing(t, "Merge to 256 kids", n, e, api.ErrForm)
		if at > 0 {
			n, e = node.Merge(inner(between[:at-1], kids[:at]...), between[at-1], inner(between[at:254], kids[at:255]...))
			is(t, "Merge to 255 kids", n, e, wide(255))
		}
	}
}

// roomy is a copy of a node whose lists have spare room, which holds something.
func roomy(n node.Node) node.Node {
	pairs := append(slices.Clone(n.Pairs), api.Pair{Key: "spare", Val: "room"}, api.Pair{Key: "more"})
	keys := append(slices.Clone(n.Keys), "spare", "room")
	kids := append(slices.Clone(n.Kids), 77, 88)
	return node.Node{Leaf: n.Leaf, Pairs: pairs[:len(n.Pairs)], Keys: keys[:len(n.Keys)], Kids: kids[:len(n.Kids)]}
}

// whole is a node with the spare room of its lists.
func whole(n node.Node) node.Node {
	return node.Node{Leaf: n.Leaf, Pairs: slices.Clone(n.Pairs[:cap(n.Pairs)]), Keys: slices.Clone(n.Keys[:cap(n.Keys)]), Kids: slices.Clone(n.Kids[:cap(n.Kids)])}
}

// spoil writes over all that a node's lists have room for.
func spoil(n node.Node) {
	for i := range n.Pairs[:cap(n.Pairs)] {
		n.Pairs[:cap(n.Pairs)][i] = api.Pair{Key: "spoilt"}
	}
	for i := range n.Keys[:cap(n.Keys)] {
		n.Keys[:cap(n.Keys)][i] = "spoilt"
	}
	for i := range n.Kids[:cap(n.Kids)] {
		n.Kids[:cap(n.Kids)][i] = -9
	}
}

// Nothing that is handed in is changed, and answers share nothing with it, nor with each other.
func TestNewMemory(t *testing.T) {
	for _, made := range append(inForm(), outOfForm()...) {
		n := roomy(made)
		want := whole(n)
		node.Check(n)
		node.Size(n)
		node.Encode(n)
		node.Find(n, "b")
		var answers []node.Node
		for _, key := range []string{"a", "b", "c", "\x00\x05", "zz"} {
			m, _ := node.Put(n, api.Pair{Key: key, Val: "other"})
			answers = append(answers, m)
			m, _ = node.Drop(n, key)
			answers = append(answers, m)
		}
		for _, x := range []node.Node{leaf("zzz", "1"), leaf(), inner(nil, 3)} {
			x = roomy(x)
			other := whole(x)
			m, _ := node.Merge(n, "zz", x)
			answers = append(answers, m)
			m, _ = node.Merge(x, "\x00", n)
			answers = append(answers, m)
			for _, m := range answers {
				spoil(m)
			}
			if !reflect.DeepEqual(whole(x), other) {
				t.Errorf("%v was changed", other)
			}
		}
		a, _, b, _ := node.Split(n)
		second := whole(b)
		spoil(a)
		if !reflect.DeepEqual(whole(b), second) {
			t.Errorf("the two of Split share: %v", b)
		}
		spoil(b)
		if !reflect.DeepEqual(whole(n), want) {
			t.Errorf("%v was changed", want)
		}
		if t.Failed() {
			t.Fatal(made)
		}
	}
}
