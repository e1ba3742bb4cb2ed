package tree

import (
	"cistern/alloc"
	"cistern/api"
	"cistern/node"
	"cistern/page"
)

// head is the page that says where the root is: as an inner node with that one kid. It is empty if the tree is.
const head = 0

// span is from which key on, and below which, keys may stand. An empty upper end is none.
type span struct{ from, to string }

// has: may a key stand in it?
func (s span) has(key string) bool {
	return key >= s.from && (s.to == "" || key < s.to)
}

// meets: may a key stand in both?
func (s span) meets(other span) bool {
	least := max(s.from, other.from)
	return s.has(least) && other.has(least)
}

// kid: the part in which the keys below the kid i of a node stand.
func (s span) kid(n node.Node, i int) span {
	if i > 0 {
		s.from = n.Keys[i-1]
	}
	if i < len(n.Keys) {
		s.to = n.Keys[i]
	}
	return s
}

// holds: do all pairs of a leaf stand in it?
func (s span) holds(l []api.Pair) bool {
	for _, p := range l {
		if !s.has(p.Key) {
			return false
		}
	}
	return true
}

// walk goes over the nodes of a tree, whatever the pages hold.
type walk struct {
	texts []string
	met   []bool // by pages
	leaf  int    // how deep the leaves are; 0, till one is met
	count int
}

// survey: the shape of the tree in the pages of a store, if they are one as the document says.
func survey(s *page.Store) (shape, api.Errno) {
	texts, e := textsOf(s)
	if e != api.OK {
		return shape{}, e
	}
	w := &walk{texts: texts, met: make([]bool, len(texts))}
	w.met[head] = true
	root, ok := rootOf(texts[head])
	if ok && root != head {
		_, ok = w.visit(root, 1, span{})
	}
	used := w.used()
	// The head's page is beside the nodes'.
	if !ok || len(used)-1 > 2*w.count || !w.restEmpty() {
		return shape{}, api.ErrForm
	}
	pages, e := alloc.New(len(texts), used)
	if e != api.OK {
		return shape{}, e
	}
	return shape{root: root, depth: w.leaf, count: w.count, pages: pages}, api.OK
}

// textsOf: what all pages hold. What page.Get says of any of them is told ahead of all that isn't in form.
func textsOf(s *page.Store) ([]string, api.Errno) {
	var texts []string
	// What no Mount made has no pages, and says so of the head's.
	for p := range max(s.Pages(), 1) {
		text, e := s.Get(p)
		if e != api.OK {
			return nil, e
		}
		texts = append(texts, text)
	}
	return texts, api.OK
}

// rootOf: the page of the root, as the head says; the head's own, if there is none.
func rootOf(text string) (int, bool) {
	if text == "" {
		return head, true
	}
	n, e := node.Decode(text)
	if e != api.OK || len(n.Kids) != 1 {
		return 0, false
	}
	return n.Kids[0], true
}

// visit goes over the nodes from a page on, which is so deep, and whose keys stand in a span; it tells the first of them.
func (w *walk) visit(at, depth int, keys span) (node.Node, bool) {
	if at >= len(w.texts) || w.met[at] {
		return node.Node{}, false
	}
	w.met[at] = true
	n, e := node.Decode(w.texts[at])
	if e != api.OK {
		return node.Node{}, false
	}
	if n.Leaf {
		return n, w.meetLeaf(n.Pairs, depth) && keys.holds(n.Pairs)
	}
	var last node.Node
	for i, kid := range n.Kids {
		next, ok := w.visit(kid, depth+1, keys.kid(n, i))
		if !ok || i > 0 && !apart(last, n.Keys[i-1], next) {
			return node.Node{}, false
		}
		last = next
	}
	return n, true
}

// meetLeaf: is a leaf as far from the root as those ahead of it, and has it pairs? (So the keys of the inner nodes above
// stand where they must, if its own do.)
func (w *walk) meetLeaf(pairs []api.Pair, depth int) bool {
	if w.leaf == 0 {
		w.leaf = depth
	}
	w.count += len(pairs)
	return depth == w.leaf && len(pairs) > 0
}

// apart: are two neighbours, with the key between them, more than one page holds?
func apart(a node.Node, key string, b node.Node) bool {
	m, e := node.Merge(a, key, b)
	return e == api.OK && node.Size(m) > api.MaxPage
}

// used: the pages that were met.
func (w *walk) used() []int {
	var l []int
	for p, met := range w.met {
		if met {
			l = append(l, p)
		}
	}
	return l
}

// restEmpty: do all other pages hold nothing?
func (w *walk) restEmpty() bool {
	for p, text := range w.texts {
		if !w.met[p] && text != "" {
			return false
		}
	}
	return true
}
