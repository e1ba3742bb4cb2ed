package tree_test

import (
	"slices"
	"strings"
	"testing"

	"cistern/api"
	"cistern/node"
	"cistern/page"
	"cistern/tree"
)

// built is a store of so many pages with these nodes from page 1 on, of which that of page 1 is the root.
func built(t *testing.T, pages int, nodes ...node.Node) (*page.Store, *tree.Tree) {
	t.Helper()
	// A tree of one pair tells what page 0 holds then.
	model, one := fresh(t, 3)
	put(t, one, "a", "1")
	if x, _ := model.Get(2); x != "" {
		t.Fatalf("the root isn't page 1: %q", x)
	}
	head, e := model.Get(0)
	told(t, "page.Get", e, api.OK)
	_, s := store(t, pages)
	told(t, "page.Put", s.Put(0, head), api.OK)
	for i, n := range nodes {
		x, e := node.Encode(n)
		told(t, "Encode", e, api.OK)
		told(t, "page.Put", s.Put(i+1, x), api.OK)
	}
	return s, opened(t, s)
}

// long is a key of all bytes that a key may have: a beginning, and the same byte all along.
func long(begin string, then string) string {
	return begin + strings.Repeat(then, api.MaxKey-len(begin))
}

func v(n int) string { return strings.Repeat("v", n) }

// leafOf is a leaf of keys, each with a value of so many bytes.
func leafOf(val int, keys ...string) node.Node {
	n := node.Node{Leaf: true}
	for _, k := range keys {
		n.Pairs = append(n.Pairs, api.Pair{Key: k, Val: v(val)})
	}
	return n
}

// full is a leaf of two pairs of long keys, between which a third one goes in no page together with either.
func full(letter string) node.Node {
	return node.Node{Leaf: true, Pairs: []api.Pair{{Key: long(letter, "1"), Val: v(44)}, {Key: long(letter, "3"), Val: v(46)}}}
}

// A leaf becomes three, and a root stands above them: Depth + 2 pages do for it.
func TestALeafBecomesThree(t *testing.T) {
	s, r := built(t, 5, full("b"))
	stands(t, r, 2, 1, 3)
	put(t, r, long("b", "2"), v(48))
	stands(t, r, 3, 2, 0)
	anatomy(t, s, r)
	ranges(t, r, "", "", 9, long("b", "1"), v(44), long("b", "2"), v(48), long("b", "3"), v(46))
	drop(t, r, long("b", "2"))
	stands(t, r, 2, 1, 3)
}

// Three long keys stand side by side in a root, among short ones; a leaf between two of them becomes three. Of the root,
// which has five long keys side by side then, two pages hold all: three would take more than Depth + 2.
func TestLongKeysSideBySide(t *testing.T) {
	letters := "abcdefghijklmnop"
	for first := range 13 {
		for at := first; at < first+4; at++ {
			root := node.Node{}
			nodes := []node.Node{{}}
			for i := range letters {
				c := letters[i : i+1]
				root.Kids = append(root.Kids, i+2)
				switch {
				case i > first && i < first+4:
					root.Keys = append(root.Keys, long(c, "-"))
				case i > 0:
					root.Keys = append(root.Keys, c)
				}
				if i == at {
					nodes = append(nodes, full(c))
				} else {
					nodes = append(nodes, leafOf(48, c+"1", c+"2"))
				}
			}
			nodes[0] = root
			s, r := built(t, 1+17+4, nodes...)
			stands(t, r, 32, 2, 4)
			put(t, r, long(letters[at:at+1], "2"), v(48))
			stands(t, r, 33, 3, 0)
			anatomy(t, s, r)
			if t.Failed() {
				t.Fatal("long keys behind", first, "the leaf", at)
			}
		}
	}
}

// Inner nodes without any room: each of them becomes two, and a leaf becomes three.
func TestAllTheWayUp(t *testing.T) {
	// The root has five kids, of five leaves each; all keys are long.
	letters := "abcdefghijklmnopqrstuvwxy"
	root := node.Node{}
	inners := make([]node.Node, 5)
	var leaves []node.Node
	for i := range 25 {
		c := letters[i : i+1]
		leaves = append(leaves, full(c))
		in := &inners[i/5]
		in.Kids = append(in.Kids, 7+i)
		if i%5 > 0 {
			in.Keys = append(in.Keys, long(c, "-"))
			continue
		}
		root.Kids = append(root.Kids, 2+i/5)
		if i > 0 {
			root.Keys = append(root.Keys, long(c, "-"))
		}
	}
	nodes := slices.Concat([]node.Node{root}, inners, leaves)
	for i := range 25 {
		s, r := built(t, 32+5, nodes...)
		stands(t, r, 50, 3, 5)
		put(t, r, long(letters[i:i+1], "2"), v(48))
		told(t, "Check", r.Check(), api.OK)
		anatomy(t, s, r)
		if r.Count() != 51 {
			t.Error(r.Count())
		}
	}
}

// branches are the nodes of a tree with an inner node of one kid, whose neighbour is too great for both to have room in one
// page.
func branches() []node.Node {
	in := node.Node{}
	nodes := []node.Node{{Keys: []string{long("b", "-")}, Kids: []int{2, 3}}, {Kids: []int{4}}, {}, leafOf(48, "a")}
	for i, c := range "bcdef" {
		in.Kids = append(in.Kids, 5+i)
		if i > 0 {
			in.Keys = append(in.Keys, long(string(c), "-"))
		}
		nodes = append(nodes, leafOf(48, string(c)+"1", string(c)+"2"))
	}
	nodes[2] = in
	return nodes
}

func TestABranchOfOneLeaf(t *testing.T) {
	// When the last pair below it goes, so does it; and no root of one kid is left.
	s, r := built(t, 20, branches()...)
	stands(t, r, 11, 3, 10)
	drop(t, r, "a")
	stands(t, r, 10, 2, 13)
	anatomy(t, s, r)
	put(t, r, "a", "1")
	stands(t, r, 11, 2, 13)
	anatomy(t, s, r)

	// Two leaves of its neighbour become one, so that the neighbour and it have room in one page; and so have the leaves at
	// the seam, as they are neighbours then.
	s, r = built(t, 20, branches()...)
	drop(t, r, "d1")
	stands(t, r, 10, 2, 14)
	anatomy(t, s, r)
	if n, _ := node.Decode(texts(t, s)[4]); len(n.Pairs) != 3 || n.Pairs[0].Key != "a" || n.Pairs[2].Key != "b2" {
		t.Errorf("the leaves at the seam aren't one: %v", n)
	}
}

// Neighbours that have just room in one page are one; a byte more, and they are two.
func TestNeighboursAtTheEdge(t *testing.T) {
	// Three pairs of 51 bytes leave room for one of 5 bytes.
	for most, want := range map[int]int{1: 1, 2: 1, 3: 2, 4: 2} {
		s, r := built(t, 9, node.Node{Keys: []string{"c"}, Kids: []int{2, 3}}, leafOf(48, "a", "b"), leafOf(48, "c", "d"))
		stands(t, r, 4, 2, 5)
		put(t, r, "d", v(most))
		if r.Depth() != want {
			t.Errorf("%d deep with %d bytes", r.Depth(), most)
		}
		told(t, "Check", r.Check(), api.OK)
		anatomy(t, s, r)
	}
}
