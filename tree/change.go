package tree

import (
	"slices"

	"cistern/api"
	"cistern/node"
)

// row is what stands side by side under one parent: pages of nodes, and the keys between them.
type row struct {
	kids []int
	keys []string
}

// change does a change wholly, or not at all.
func (t *Tree) change(do func() api.Errno) api.Errno {
	m := t.Mark()
	e := do()
	if e != api.OK {
		t.Back(m)
	}
	return e
}

// plant: an empty tree gets its first leaf.
func (t *Tree) plant(leaf node.Node) api.Errno {
	at, e := t.pages.Take()
	if e != api.OK {
		return e
	}
	if e := t.write(at, leaf); e != api.OK {
		return e
	}
	t.count = len(leaf.Pairs)
	return t.setRoot(at, 1)
}

// edit: the leaf that a key belongs to is what a closure makes of it.
func (t *Tree) edit(key string, do func(node.Node) (node.Node, api.Errno)) api.Errno {
	top, e := t.editBelow(t.root, t.depth, key, do)
	if e != api.OK {
		return e
	}
	return t.crown(top)
}

// editBelow edits below a page; the row is what stands in that page's stead.
func (t *Tree) editBelow(at, height int, key string, do func(node.Node) (node.Node, api.Errno)) (row, api.Errno) {
	n, e := t.read(at, height)
	if e != api.OK {
		return row{}, e
	}
	if n.Leaf {
		edited, e := do(n)
		if e != api.OK {
			return row{}, e
		}
		t.count += len(edited.Pairs) - len(n.Pairs)
		return t.place(at, edited)
	}
	i, _ := node.Find(n, key)
	r, e := t.editBelow(n.Kids[i], height-1, key, do)
	if e != api.OK {
		return row{}, e
	}
	replace(&n, i, r)
	if e := t.tidy(&n, height-1, i-1, i+len(r.kids)); e != api.OK {
		return row{}, e
	}
	return t.place(at, n)
}

// replace: in a node a row stands in the stead of the kid i.
func replace(n *node.Node, i int, r row) {
	n.Kids = slices.Replace(n.Kids, i, i+1, r.kids...)
	if len(r.kids) > 0 {
		n.Keys = slices.Insert(n.Keys, i, r.keys...)
	} else if len(n.Keys) > 0 {
		// With a kid goes the key on one side of it.
		side := max(i-1, 0)
		n.Keys = slices.Delete(n.Keys, side, side+1)
	}
}

// place: a node of any size is in a page, and what the page hasn't room for in others beside it; a node of nothing is in none.
func (t *Tree) place(at int, n node.Node) (row, api.Errno) {
	if len(n.Pairs) == 0 && len(n.Kids) == 0 {
		return row{}, t.free(at)
	}
	if node.Size(n) <= api.MaxPage {
		return row{kids: []int{at}}, t.write(at, n)
	}
	first, key, second, e := halve(n)
	if e != api.OK {
		return row{}, e
	}
	left, e := t.place(at, first)
	if e != api.OK {
		return row{}, e
	}
	next, e := t.pages.Take()
	if e != api.OK {
		return row{}, e
	}
	right, e := t.place(next, second)
	if e != api.OK {
		return row{}, e
	}
	return row{
		kids: slices.Concat(left.kids, right.kids),
		keys: slices.Concat(left.keys, []string{key}, right.keys),
	}, api.OK
}

// halve: two of a node that one page hasn't room for, and the key between them. An inner node is halved by its bytes, as
// a change adds no more than two keys to it, and two pages always have room for it then: so a change takes two new pages
// for leaves, one for the inner nodes of each depth, and one for a root: Depth + 2. By the count of its kids, as
// node.Split does it, one of the two might not fit a page still, where the long keys stand side by side.
func halve(n node.Node) (node.Node, string, node.Node, api.Errno) {
	if n.Leaf {
		return node.Split(n)
	}
	for i := range n.Keys {
		first := node.Node{Keys: n.Keys[:i], Kids: n.Kids[:i+1]}
		second := node.Node{Keys: n.Keys[i+1:], Kids: n.Kids[i+1:]}
		if node.Size(first) >= node.Size(second) {
			return first, n.Keys[i], second, api.OK
		}
	}
	return node.Node{}, "", node.Node{}, api.ErrForm
}

// tidy: of the kids of a node, from one number to another, neighbours are joined where one page has room for both. What
// is joined is no less than either was, so it needn't be held against the neighbour ahead again.
func (t *Tree) tidy(n *node.Node, height, from, to int) api.Errno {
	i := max(from, 0)
	for i < min(to, len(n.Kids)-1) {
		joined, e := t.join(n, height, i)
		if e != api.OK {
			return e
		}
		if joined {
			to--
		} else {
			i++
		}
	}
	return api.OK
}

// join: the kids i and i + 1 of a node are one, if one page has room for both; are they?
func (t *Tree) join(n *node.Node, height, i int) (bool, api.Errno) {
	at, next := n.Kids[i], n.Kids[i+1]
	a, e := t.read(at, height)
	if e != api.OK {
		return false, e
	}
	b, e := t.read(next, height)
	if e != api.OK {
		return false, e
	}
	m, e := node.Merge(a, n.Keys[i], b)
	if e != api.OK || node.Size(m) > api.MaxPage {
		return false, e
	}
	// The last kid of the one and the first kid of the other are neighbours now.
	if e := t.tidy(&m, height-1, len(a.Kids)-1, len(a.Kids)); e != api.OK {
		return false, e
	}
	if e := t.write(at, m); e != api.OK {
		return false, e
	}
	n.Kids = slices.Delete(n.Kids, i+1, i+2)
	n.Keys = slices.Delete(n.Keys, i, i+1)
	return true, t.free(next)
}

// crown: what stands at the top is below one root, without a row of inner nodes of one kid each above it.
func (t *Tree) crown(top row) api.Errno {
	root := node.Node{Keys: top.keys, Kids: top.kids}
	if e := t.tidy(&root, t.depth, 0, len(root.Kids)-1); e != api.OK {
		return e
	}
	switch len(root.Kids) {
	case 0:
		return t.setRoot(head, 0)
	case 1:
		return t.lower(root.Kids[0])
	}
	at, e := t.pages.Take()
	if e != api.OK {
		return e
	}
	if e := t.write(at, root); e != api.OK {
		return e
	}
	return t.setRoot(at, t.depth+1)
}

// lower: the root is the first node from one on that is a leaf, or has more than one kid.
func (t *Tree) lower(root int) api.Errno {
	depth := t.depth
	for depth > 1 {
		n, e := t.read(root, depth)
		if e != api.OK {
			return e
		}
		if len(n.Kids) > 1 {
			break
		}
		if e := t.free(root); e != api.OK {
			return e
		}
		root, depth = n.Kids[0], depth-1
	}
	return t.setRoot(root, depth)
}

// setRoot: the root, and how deep the leaves are below it.
func (t *Tree) setRoot(root, depth int) api.Errno {
	t.root, t.depth = root, depth
	if root == head {
		return t.store.Put(head, "")
	}
	return t.write(head, node.Node{Kids: []int{root}})
}

// write: a node is in a page. What a page holds already isn't put again, so that a commit needn't take it.
func (t *Tree) write(at int, n node.Node) api.Errno {
	text, e := node.Encode(n)
	if e != api.OK {
		return e
	}
	if old, e := t.store.Get(at); e == api.OK && old == text {
		return api.OK
	}
	return t.store.Put(at, text)
}

// free: a page holds no node any longer. It may be taken again at once, as the store's commit changes all pages together.
func (t *Tree) free(at int) api.Errno {
	if e := t.pages.Give(at); e != api.OK {
		return e
	}
	t.pages.Settle()
	return t.store.Put(at, "")
}
