package tree_test

import (
	"slices"
	"strings"
	"testing"

	"cistern/api"
	"cistern/flash"
	"cistern/node"
	"cistern/page"
	"cistern/tree"
)

// noTree asks that the pages are taken for no tree, and that a tree that was opened ahead ends all its calls.
func noTree(t *testing.T, s *page.Store, r *tree.Tree) {
	t.Helper()
	if other, e := tree.Open(s); other != nil || e != api.ErrForm {
		t.Errorf("Open: %v, %d", other, e)
	}
	told(t, "Check", r.Check(), api.ErrForm)
	ends(r)
}

// ends does all calls; whatever they answer, they end.
func ends(r *tree.Tree) {
	m := r.Mark()
	for _, key := range []string{"", "a", "b1", "k\x10", "m", "zz"} {
		r.Get(key)
		r.Put(key, "1")
		r.Put(key+"x", strings.Repeat("v", api.MaxVal))
		r.Range(key, "", 1000)
		r.Range("", key, 1000)
		r.Drop(key)
		r.Count()
		r.Depth()
		r.Room()
	}
	for range 3 {
		r.Check()
		r.Back(m)
	}
}

func encoded(t *testing.T, n node.Node) string {
	t.Helper()
	x, e := node.Encode(n)
	told(t, "Encode", e, api.OK)
	return x
}

// Each page of a tree holds something else than it did.
func TestPagesThatAreNoTree(t *testing.T) {
	s, r := fresh(t, 80)
	for i := range 120 {
		put(t, r, string([]byte{'k', byte(i)})+strings.Repeat("-", 20), strings.Repeat("v", i%40))
	}
	if r.Depth() < 3 {
		t.Error("only", r.Depth(), "deep")
	}
	all := texts(t, s)
	wholly, e := r.Range("", "", 1000)
	told(t, "Range", e, api.OK)
	m := s.Mark()
	for p, old := range all {
		if p > 0 && old == "" {
			// No node stands there: a node that does is in no tree.
			told(t, "page.Put", s.Put(p, all[1]), api.OK)
			noTree(t, s, r)
			told(t, "page.Back", s.Back(m), api.OK)
			continue
		}
		others := []string{
			"", "\x00", "junk", old[:len(old)-1], old + "\x00", strings.Repeat("\xff", 160),
			encoded(t, node.Node{Leaf: true}),
			encoded(t, leafOf(0, "k")),
			encoded(t, node.Node{Kids: []int{p + 79}}),
			encoded(t, node.Node{Kids: []int{p + 1, p + 1}, Keys: []string{"k\x20"}}),
			encoded(t, node.Node{Kids: []int{80}}),
			encoded(t, node.Node{Kids: []int{65535}}),
		}
		if p > 0 {
			others = append(others, encoded(t, node.Node{Kids: []int{p}}), encoded(t, node.Node{Kids: []int{p, p}, Keys: []string{"k\x40"}}))
		}
		for q, x := range all {
			if q != p && x != "" && (p == 0 || q%5 == p%5) {
				others = append(others, x)
			}
		}
		for i, x := range others {
			told(t, "page.Put", s.Put(p, x), api.OK)
			noTree(t, s, r)
			told(t, "page.Back", s.Back(m), api.OK)
			if t.Failed() {
				t.Fatalf("page %d, text %d: %q", p, i, x)
			}
		}
	}
	told(t, "Check", opened(t, s).Check(), api.OK)
	if l, e := opened(t, s).Range("", "", 1000); !slices.Equal(l, wholly) || e != api.OK {
		t.Error(len(l), e)
	}
}

// Pages that are nodes in form, but no tree as the chapter says.
func TestNodesThatAreNoTree(t *testing.T) {
	great := func(c string) node.Node { return leafOf(48, c+"1", c+"2") }
	inner := func(keys string, kids ...int) node.Node {
		n := node.Node{Kids: kids}
		for _, k := range keys {
			n.Keys = append(n.Keys, string(k))
		}
		return n
	}
	// Such trees there may be.
	s, good := built(t, 9, inner("b", 2, 3), great("a"), great("b"))
	stands(t, good, 4, 2, 5)
	many, empty, deeper := branches(), branches(), branches()
	_, good = built(t, 20, many...)
	stands(t, good, 11, 3, 10)
	// A leaf of no pair that has no neighbour, and one that is deeper than the others.
	empty[3] = leafOf(0)
	deeper[3] = node.Node{Kids: []int{10}}
	deeper = append(deeper, leafOf(48, "a"))
	// The pairs of both neighbours take 158 bytes.
	edge := leafOf(48, "d")
	edge.Pairs = append(edge.Pairs, api.Pair{Key: "e", Val: "12"})
	head, _ := s.Get(0)
	for i, nodes := range [][]node.Node{
		{inner("b", 2, 3), great("a"), leafOf(48, "b1")},         // neighbours with room in one page
		{inner("c", 2, 3), leafOf(48, "a", "b"), edge},           // likewise: they have just room
		{inner("c", 2, 3), great("a"), great("b")},               // keys on the wrong side
		{inner("a", 2, 3), great("a"), great("b")},               // likewise
		{inner("b", 3, 2), great("a"), great("b")},               // kids the wrong way round
		{inner("b", 2, 2), great("a")},                           // a kid twice
		{inner("bc", 2, 3, 2), great("a"), great("b")},           // likewise
		{inner("b", 2, 1), great("a")},                           // its own kid
		{inner("b", 2, 20), great("a")},                          // no page
		{inner("b", 2, 3), great("a")},                           // a page of nothing
		{inner("b", 2, 3), great("a"), inner("", 4), great("b")}, // a leaf beside an inner node
		{inner("", 2), inner("", 3), leafOf(0, "a")},             // more than twice as many pages
		{leafOf(0)},                      // a page for an empty tree
		{leafOf(0, "a"), leafOf(0, "b")}, // a node in no tree
		{inner("b", 2, 3), great("a"), great("b"), great("c")},       // likewise
		{inner("b", 2, 3), great("a"), great("b"), inner("c", 2, 3)}, // likewise
		empty,
		deeper,
	} {
		_, s := store(t, 20)
		told(t, "page.Put", s.Put(0, head), api.OK)
		for j, n := range nodes {
			told(t, "page.Put", s.Put(j+1, encoded(t, n)), api.OK)
		}
		if r, e := tree.Open(s); r != nil || e != api.ErrForm {
			t.Errorf("%d: Open: %v, %d", i, r, e)
		}
		// The same behind the back of a tree.
		_, s = store(t, 20)
		r := opened(t, s)
		told(t, "page.Put", s.Put(0, head), api.OK)
		for j, n := range nodes {
			told(t, "page.Put", s.Put(j+1, encoded(t, n)), api.OK)
		}
		noTree(t, s, r)
	}
	// Page 0 says where one root is, not two, and not in a leaf.
	for _, n := range []node.Node{inner("b", 1, 2), leafOf(0, "a"), leafOf(0)} {
		s, r := built(t, 9, leafOf(0, "a"))
		told(t, "page.Put", s.Put(0, encoded(t, n)), api.OK)
		noTree(t, s, r)
	}
}

// Another tree in the pages than the one that was opened: that one isn't as it must be any longer.
func TestAnotherTreeInThePages(t *testing.T) {
	two := func(kids ...int) node.Node { return node.Node{Keys: []string{"c"}, Kids: kids} }
	three := node.Node{Keys: []string{"c", "e"}, Kids: []int{2, 3, 4}}
	ab, cd, ef := leafOf(48, "a", "b"), leafOf(48, "c", "d"), leafOf(48, "e", "f")
	for i, x := range []struct {
		root          int
		before, after []node.Node // from page 1 on; of no kid and no pair: nothing
	}{
		{1, []node.Node{ab}, []node.Node{leafOf(48, "a", "b", "c")}},                // more pairs
		{0, []node.Node{ab}, []node.Node{{}}},                                       // none
		{1, []node.Node{ab}, []node.Node{two(2, 3), ab, cd}},                        // all is otherwise
		{2, []node.Node{two(2, 3), ab, cd}, []node.Node{ab, two(1, 3), cd}},         // another root
		{1, []node.Node{two(2, 3), ab, cd, {}}, []node.Node{two(2, 4), ab, {}, cd}}, // another page
		{1, []node.Node{three, ab, cd, ef}, []node.Node{{Kids: []int{2}}, {Keys: []string{"d"}, Kids: []int{3, 4}}, leafOf(48, "a", "b", "c"), leafOf(48, "d", "e", "f")}}, // deeper
	} {
		lay := func(s *page.Store, root int, nodes []node.Node) {
			text := ""
			if root > 0 {
				text = encoded(t, node.Node{Kids: []int{root}})
			}
			told(t, "page.Put", s.Put(0, text), api.OK)
			for i, n := range nodes {
				text = ""
				if len(n.Kids)+len(n.Pairs) > 0 {
					text = encoded(t, n)
				}
				told(t, "page.Put", s.Put(i+1, text), api.OK)
			}
		}
		_, s := store(t, 9)
		lay(s, 1, x.before)
		r := opened(t, s)
		told(t, "Check", r.Check(), api.OK)
		lay(s, x.root, x.after)
		told(t, "Check", opened(t, s).Check(), api.OK)
		told(t, "Check", r.Check(), api.ErrForm)
		ends(r)
		if t.Failed() {
			t.Fatal(i)
		}
	}
}

// A tree in the pages that another one has put: that has taken its place, and the calls of the older one end all the same.
func TestTheOlderTree(t *testing.T) {
	s, older := fresh(t, 60)
	newer := opened(t, s)
	for i := range 100 {
		put(t, newer, string([]byte{'k', byte(i)}), "v")
	}
	told(t, "Check", newer.Check(), api.OK)
	told(t, "Check", older.Check(), api.ErrForm)
	ends(older)
	older = newer
	newer = opened(t, s)
	for i := range 100 {
		newer.Drop(string([]byte{'k', byte(i)}))
	}
	ends(older)
	ends(newer)
}

// placed is a tree of which all pages stand in their places.
func placed(t *testing.T, pages, pairs int) (*flash.Device, *page.Store, *tree.Tree) {
	t.Helper()
	d, s := store(t, pages)
	r := opened(t, s)
	for i := range pairs {
		put(t, r, string([]byte{'k', byte(i)}), strings.Repeat("v", i%30))
	}
	told(t, "Commit", s.Commit(), api.OK)
	told(t, "Checkpoint", s.Checkpoint(), api.OK)
	return d, s, r
}

// While the power is off nothing can be read, and nothing is changed.
func TestPowerOff(t *testing.T) {
	d, s, r := placed(t, 60, 100)
	count, depth, room := r.Count(), r.Depth(), r.Room()
	d.Arm(0)
	told(t, "Flush", d.Flush(), api.ErrDown)
	for i := range 100 {
		key := string([]byte{'k', byte(i)})
		if x, e := r.Get(key); x != "" || e != api.ErrDown {
			t.Errorf("Get: %q, %d", x, e)
		}
		told(t, "Put", r.Put(key, "other"), api.ErrDown)
		told(t, "Put", r.Put(key+"x", "new"), api.ErrDown)
		told(t, "Drop", r.Drop(key), api.ErrDown)
		if l, e := r.Range(key, "", 1); l != nil || e != api.ErrDown {
			t.Errorf("Range: %q, %d", l, e)
		}
	}
	told(t, "Put", r.Put("", "new"), api.ErrForm)
	told(t, "Check", r.Check(), api.ErrDown)
	if other, e := tree.Open(s); other != nil || e != api.ErrDown {
		t.Errorf("Open: %v, %d", other, e)
	}
	if s.Dirty() != 0 {
		t.Errorf("%d pages wait", s.Dirty())
	}
	d.Crash(nil)
	stands(t, r, count, depth, room)
}

// A page of a tree is torn: what wants it is refused, and has changed nothing; all else goes on.
func TestTornPages(t *testing.T) {
	whole, _, _ := placed(t, 60, 100)
	refused, done := 0, 0
	for p := range 60 {
		d, s, r := placed(t, 60, 100)
		before := texts(t, s)
		if before[p] == "" {
			continue
		}
		told(t, "Write", d.Write(2+61+p, make([]byte, api.Sector)), api.OK)
		d.Crash([]int{2})
		if other, e := tree.Open(s); other != nil || e != api.ErrTorn {
			t.Errorf("Open: %v, %d", other, e)
		}
		told(t, "Check", r.Check(), api.ErrTorn)
		for i := range 100 {
			key := string([]byte{'k', byte(i)})
			m, count, room := r.Mark(), r.Count(), r.Room()
			for _, do := range []func() api.Errno{
				func() api.Errno { return r.Drop(key) },
				func() api.Errno { return r.Put(key, "") },
				func() api.Errno { return r.Put(key+"x", strings.Repeat("w", 48)) },
			} {
				switch e := do(); e {
				case api.OK:
					done++
					told(t, "Back", r.Back(m), api.OK)
				case api.ErrTorn:
					refused++
				default:
					t.Errorf("%d", e)
				}
				if s.Dirty() != 0 || r.Count() != count || r.Room() != room {
					t.Errorf("%d pages wait, %d pairs, room %d", s.Dirty(), r.Count(), r.Room())
				}
			}
			if x, e := r.Get(key); e == api.OK && x != strings.Repeat("v", i%30) || e != api.OK && (e != api.ErrTorn || x != "") {
				t.Errorf("Get: %q, %d", x, e)
			}
		}
		// As it was, once the page can be read again.
		b, e := whole.Read(2 + 61 + p)
		told(t, "Read", e, api.OK)
		told(t, "Write", d.Write(2+61+p, b), api.OK)
		told(t, "Check", r.Check(), api.OK)
		if t.Failed() {
			t.Fatal("page", p)
		}
	}
	if refused < 1000 || done < 1000 {
		t.Errorf("%d times refused, %d times done", refused, done)
	}
}

// What page.Get says is told ahead of what isn't in form.
func TestTornAheadOfForm(t *testing.T) {
	d, s, r := placed(t, 60, 100)
	last := 0
	for p, x := range texts(t, s) {
		if x != "" {
			last = p
		}
	}
	told(t, "page.Put", s.Put(0, "junk"), api.OK)
	told(t, "Check", r.Check(), api.ErrForm)
	told(t, "Write", d.Write(2+61+last, make([]byte, api.Sector)), api.OK)
	d.Crash([]int{2})
	if other, e := tree.Open(s); other != nil || e != api.ErrTorn {
		t.Errorf("Open: %v, %d", other, e)
	}
	told(t, "Check", r.Check(), api.ErrTorn)
}
