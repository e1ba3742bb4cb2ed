package tree_test

import (
	"math"
	"slices"
	"strings"
	"testing"

	"cistern/api"
	"cistern/flash"
	"cistern/node"
	"cistern/page"
	"cistern/tree"
)

func told(t *testing.T, what string, got, want api.Errno) {
	t.Helper()
	if got != want {
		t.Errorf("%s: %d, not %d", what, got, want)
	}
}

// store is a device of so many pages that is formatted and mounted, with as much log.
func store(t *testing.T, pages int) (*flash.Device, *page.Store) {
	t.Helper()
	log := min(max(pages+1, 4), 1000)
	d, e := flash.New(2 + log + pages)
	told(t, "flash.New", e, api.OK)
	told(t, "Format", page.Format(d, log, pages), api.OK)
	return d, mounted(t, d, log, pages)
}

func mounted(t *testing.T, d *flash.Device, log, pages int) *page.Store {
	t.Helper()
	s, e := page.Mount(d, log, pages)
	if e != api.OK {
		t.Fatal("Mount", e)
	}
	return s
}

func opened(t *testing.T, s *page.Store) *tree.Tree {
	t.Helper()
	r, e := tree.Open(s)
	if e != api.OK || r == nil {
		t.Fatal("Open", e)
	}
	return r
}

// fresh is an empty tree in so many pages.
func fresh(t *testing.T, pages int) (*page.Store, *tree.Tree) {
	t.Helper()
	_, s := store(t, pages)
	return s, opened(t, s)
}

func put(t *testing.T, r *tree.Tree, key, val string) {
	t.Helper()
	told(t, "Put", r.Put(key, val), api.OK)
}

func drop(t *testing.T, r *tree.Tree, key string) {
	t.Helper()
	told(t, "Drop", r.Drop(key), api.OK)
}

func gets(t *testing.T, r *tree.Tree, key, want string) {
	t.Helper()
	if got, e := r.Get(key); got != want || e != api.OK {
		t.Errorf("Get(%q): %q, %d, not %q", key, got, e, want)
	}
}

func misses(t *testing.T, r *tree.Tree, keys ...string) {
	t.Helper()
	for _, key := range keys {
		if got, e := r.Get(key); got != "" || e != api.ErrMiss {
			t.Errorf("Get(%q): %q, %d", key, got, e)
		}
		told(t, "Drop", r.Drop(key), api.ErrMiss)
	}
}

// ranges asks for the pairs of a span: keys and values, one behind the other.
func ranges(t *testing.T, r *tree.Tree, from, to string, most int, texts ...string) {
	t.Helper()
	var want []api.Pair
	for i := 0; i < len(texts); i += 2 {
		want = append(want, api.Pair{Key: texts[i], Val: texts[i+1]})
	}
	if got, e := r.Range(from, to, most); !slices.Equal(got, want) || e != api.OK {
		t.Errorf("Range(%q, %q, %d): %q, %d, not %q", from, to, most, got, e, want)
	}
}

// stands asks for how many pairs there are, how deep, and how many pages are free; and Check must answer OK.
func stands(t *testing.T, r *tree.Tree, count, depth, room int) {
	t.Helper()
	if r.Count() != count || r.Depth() != depth || r.Room() != room {
		t.Errorf("%d pairs, %d deep, room %d; not %d, %d, %d", r.Count(), r.Depth(), r.Room(), count, depth, room)
	}
	told(t, "Check", r.Check(), api.OK)
}

// texts tells what all pages hold.
func texts(t *testing.T, s *page.Store) []string {
	t.Helper()
	var l []string
	for p := range s.Pages() {
		x, e := s.Get(p)
		if e != api.OK {
			t.Errorf("page.Get(%d): %d", p, e)
		}
		l = append(l, x)
	}
	return l
}

// anatomy looks at the nodes in the pages, by the chapter's words, and tells the tree's pairs and how deep it is.
// Page 0 counts for nothing: the root is the node that is no kid.
func anatomy(t *testing.T, s *page.Store, r *tree.Tree) ([]api.Pair, int) {
	t.Helper()
	nodes := map[int]node.Node{}
	above := map[int]int{}
	for p, x := range texts(t, s)[1:] {
		n, e := node.Decode(x)
		if e != api.OK {
			if x != "" {
				t.Errorf("page %d holds %q, which is no node", p+1, x)
			}
			continue
		}
		nodes[p+1] = n
		for _, kid := range n.Kids {
			above[kid]++
		}
	}
	roots, root := 0, 0
	for p := range nodes {
		if above[p] == 0 {
			roots, root = roots+1, p
		}
		if above[p] > 1 {
			t.Errorf("page %d is a kid %d times", p, above[p])
		}
	}
	if roots != min(len(nodes), 1) {
		t.Fatalf("%d nodes have none above them, of %d", roots, len(nodes))
	}
	if r.Room() != s.Pages()-1-len(nodes) {
		t.Errorf("Room: %d with %d nodes in %d pages", r.Room(), len(nodes), s.Pages())
	}
	var pairs []api.Pair
	depth := 0
	var visit func(at, deep int, from, to string)
	visit = func(at, deep int, from, to string) {
		n, there := nodes[at]
		if !there {
			t.Fatalf("the kid %d is no node", at)
		}
		for _, k := range n.Keys {
			if k < from || to != "" && k >= to {
				t.Errorf("the key %q stands between %q and %q", k, from, to)
			}
		}
		if n.Leaf {
			for _, p := range n.Pairs {
				if p.Key < from || to != "" && p.Key >= to {
					t.Errorf("the key %q stands between %q and %q", p.Key, from, to)
				}
			}
			if depth != 0 && depth != deep {
				t.Errorf("leaves %d and %d deep", depth, deep)
			}
			depth = deep
			pairs = append(pairs, n.Pairs...)
			return
		}
		for i, kid := range n.Kids {
			a, b := from, to
			if i > 0 {
				a = n.Keys[i-1]
				m, e := node.Merge(nodes[n.Kids[i-1]], a, nodes[kid])
				if e != api.OK || node.Size(m) <= api.MaxPage {
					t.Errorf("the neighbours %d and %d have room in one page: %d", n.Kids[i-1], kid, e)
				}
			}
			if i < len(n.Keys) {
				b = n.Keys[i]
			}
			visit(kid, deep+1, a, b)
		}
	}
	if len(nodes) > 0 {
		visit(root, 1, "", "")
	}
	if len(nodes) > 2*len(pairs) {
		t.Errorf("%d pages for %d pairs", len(nodes), len(pairs))
	}
	return pairs, depth
}

func TestTheChaptersExample(t *testing.T) {
	s, r := fresh(t, 40)
	stands(t, r, 0, 0, 39)
	put(t, r, "b", "2")
	put(t, r, "a", "1")
	put(t, r, "b", "3")
	ranges(t, r, "", "", 9, "a", "1", "b", "3")
	ranges(t, r, "b", "", 9, "b", "3")
	ranges(t, r, "", "b", 9, "a", "1")
	stands(t, r, 2, 1, 38)
	misses(t, r, "c")
	told(t, "Put", r.Put("", "x"), api.ErrForm)
	gets(t, r, "a", "1")
	gets(t, r, "b", "3")
	pairs, depth := anatomy(t, s, r)
	if len(pairs) != 2 || depth != 1 {
		t.Error(pairs, depth)
	}
}

// The first pairs in order, of DOC.md's example.
func TestRangeTellsTheOrder(t *testing.T) {
	_, r := fresh(t, 5)
	put(t, r, "b", "2")
	put(t, r, "a", "1")
	ranges(t, r, "", "", math.MaxInt, "a", "1", "b", "2")
}

func TestNil(t *testing.T) {
	_, other := fresh(t, 5)
	for _, r := range []*tree.Tree{nil, {}} {
		if r.Count() != 0 || r.Depth() != 0 || r.Room() != 0 || r.Mark() != nil {
			t.Error("a nil tree has something")
		}
		v, e := r.Get("a")
		told(t, "Get", e, api.ErrArg)
		l, e := r.Range("", "", 1)
		told(t, "Range", e, api.ErrArg)
		if v != "" || l != nil {
			t.Error(v, l)
		}
		told(t, "Put", r.Put("a", "1"), api.ErrArg)
		told(t, "Put", r.Put("", ""), api.ErrArg)
		told(t, "Drop", r.Drop("a"), api.ErrArg)
		told(t, "Check", r.Check(), api.ErrArg)
		for _, m := range []*tree.Mark{nil, {}, other.Mark()} {
			told(t, "Back", r.Back(m), api.ErrArg)
		}
	}
}

func TestOpenOfNothing(t *testing.T) {
	for _, s := range []*page.Store{nil, {}} {
		if r, e := tree.Open(s); r != nil || e != api.ErrArg {
			t.Error(r, e)
		}
	}
}

func TestPutsArguments(t *testing.T) {
	s, r := fresh(t, 20)
	long, great := strings.Repeat("k", api.MaxKey), strings.Repeat("v", api.MaxVal)
	for _, x := range [][2]string{{"", ""}, {"", "x"}, {long + "k", ""}, {"a", great + "v"}, {long + "k", great + "v"}, {strings.Repeat("k", 5000), strings.Repeat("v", 5000)}} {
		told(t, "Put", r.Put(x[0], x[1]), api.ErrForm)
	}
	stands(t, r, 0, 0, 19)
	if s.Dirty() != 0 {
		t.Errorf("%d pages wait", s.Dirty())
	}
	put(t, r, long, great)
	put(t, r, "\x00", "")
	put(t, r, "\xff", "\x00\xff")
	for _, x := range [][2]string{{"", "x"}, {long + "k", ""}, {long, great + "v"}} {
		told(t, "Put", r.Put(x[0], x[1]), api.ErrForm)
	}
	ranges(t, r, "", "", 9, "\x00", "", long, great, "\xff", "\x00\xff")
	gets(t, r, long, great)
	misses(t, r, "", "k", long+"k", "\x00\x00", long[1:], strings.Repeat("\xff", 100))
	if l, e := r.Range("", "", -1); l != nil || e != api.ErrArg {
		t.Error(l, e)
	}
	if l, e := r.Range("b", "a", math.MinInt); l != nil || e != api.ErrArg {
		t.Error(l, e)
	}
}

func TestRangesEnds(t *testing.T) {
	_, r := fresh(t, 400)
	ranges(t, r, "", "", 5)
	ranges(t, r, "a", "b", 0)
	var all []string
	for i := range 300 {
		key := string([]byte{'k', byte(i / 16), byte(i % 16)}) + strings.Repeat("k", i%7)
		all = append(all, key, "v")
		put(t, r, key, "v")
	}
	if r.Depth() < 3 {
		t.Error("only", r.Depth(), "deep")
	}
	ranges(t, r, "", "", 300, all...)
	ranges(t, r, "", "", 1000, all...)
	ranges(t, r, "", "", 299, all[:598]...)
	ranges(t, r, "", "", 1, all[:2]...)
	ranges(t, r, "", "", 0)
	ranges(t, r, "k", "l", math.MaxInt, all...)
	ranges(t, r, "l", "", 9)
	ranges(t, r, "", "k", 9)
	ranges(t, r, "", "k\x00\x00", 9)
	ranges(t, r, "", "k\x00\x00\x00", 9, all[:2]...)
	ranges(t, r, "k\x03", "k\x02", 9)
	ranges(t, r, "k\x03\x05", "k\x03\x05", 9)
	for i := range 300 {
		ranges(t, r, all[2*i], "", 300, all[2*i:]...)
		ranges(t, r, all[2*i]+"\x00", "", 7, all[2*i+2:min(2*i+16, 600)]...)
		ranges(t, r, "", all[2*i], 300, all[:2*i]...)
		half := i / 2
		ranges(t, r, all[2*half], all[2*i]+"\x00", 300, all[2*half:2*i+2]...)
		if t.Failed() {
			t.Fatal("key", i)
		}
	}
}

// All keys of some bytes, put in an order and dropped in another: at each time all is as it must be.
func TestUpAndDown(t *testing.T) {
	orders := []func(i, n int) int{
		func(i, n int) int { return i },
		func(i, n int) int { return n - 1 - i },
		func(i, n int) int { return i * 37 % n },
		func(i, n int) int { return i/2 + i%2*(n/2) },
	}
	const n = 120
	for _, val := range []int{0, 20, 48} {
		for up := range orders {
			for down := range orders {
				s, r := fresh(t, 2*n+1)
				key := func(i int) string {
					k := string([]byte{'a' + byte(i/10), 'a' + byte(i%10)})
					return k + strings.Repeat("-", i%3*15)
				}
				for i := range n {
					put(t, r, key(orders[up](i, n)), strings.Repeat("v", val))
					told(t, "Check", r.Check(), api.OK)
				}
				pairs, depth := anatomy(t, s, r)
				if len(pairs) != n || depth != r.Depth() || r.Count() != n || depth < 2 {
					t.Error(len(pairs), depth, r.Count(), r.Depth())
				}
				for i := range n {
					k := key(orders[down](i, n))
					drop(t, r, k)
					misses(t, r, k)
					told(t, "Check", r.Check(), api.OK)
					pairs, depth := anatomy(t, s, r)
					if len(pairs) != n-1-i || depth != r.Depth() || r.Count() != n-1-i {
						t.Error(len(pairs), depth, r.Count(), r.Depth())
					}
					if t.Failed() {
						t.Fatal("values of", val, "orders", up, down, "step", i)
					}
				}
				// An empty tree takes no page, and page 0 is as it was.
				stands(t, r, 0, 0, 2*n)
				for p, x := range texts(t, s) {
					if x != "" {
						t.Errorf("page %d holds %q", p, x)
					}
				}
			}
		}
	}
}

// A store of one page has no room for any node, but it is an empty tree.
func TestNoRoomAtAll(t *testing.T) {
	s, r := fresh(t, 1)
	stands(t, r, 0, 0, 0)
	told(t, "Put", r.Put("a", "1"), api.ErrSpace)
	told(t, "Put", r.Put("", "1"), api.ErrForm)
	misses(t, r, "a", "")
	ranges(t, r, "", "", 9)
	stands(t, r, 0, 0, 0)
	if s.Dirty() != 0 {
		t.Errorf("%d pages wait", s.Dirty())
	}
}

// Beside ErrSpace nothing is changed, and what isn't longer than it was goes in all the same.
func TestNoRoom(t *testing.T) {
	for pages := 2; pages < 40; pages++ {
		s, r := fresh(t, pages)
		val := strings.Repeat("v", 40)
		n := 0
		key := func(i int) string { return string([]byte{byte(i * 37 % 251), byte(i)}) }
		for ; ; n++ {
			before, room, dirty := texts(t, s), r.Room(), s.Dirty()
			e := r.Put(key(n), val)
			if e == api.OK {
				continue
			}
			told(t, "Put", e, api.ErrSpace)
			if room >= r.Depth()+2 {
				t.Errorf("no room with %d pages at depth %d", room, r.Depth())
			}
			if !slices.Equal(texts(t, s), before) || r.Room() != room || s.Dirty() != dirty || r.Count() != n {
				t.Errorf("a Put that was refused changed something")
			}
			break
		}
		told(t, "Check", r.Check(), api.OK)
		for i := range n {
			put(t, r, key(i), strings.Repeat("w", 40-i%41))
			told(t, "Check", r.Check(), api.OK)
		}
		for i := range n {
			gets(t, r, key(i), strings.Repeat("w", 40-i%41))
			drop(t, r, key(i))
		}
		stands(t, r, 0, 0, pages-1)
		if t.Failed() {
			t.Fatal(pages, "pages")
		}
	}
}

func TestAnswersAreNew(t *testing.T) {
	_, r := fresh(t, 40)
	for i := range 40 {
		put(t, r, string([]byte{'a', byte(i)}), "v")
	}
	l, e := r.Range("", "", 40)
	told(t, "Range", e, api.OK)
	want := slices.Clone(l)
	for i := range l {
		l[i] = api.Pair{Key: "spoilt", Val: "spoilt"}
	}
	if again, e := r.Range("", "", 40); !slices.Equal(again, want) || e != api.OK {
		t.Error(again, e)
	}
	told(t, "Check", r.Check(), api.OK)
}

// What a tree has put waits in the store; what is opened anew is the same, committed or not.
func TestOpenedAnew(t *testing.T) {
	d, s := store(t, 60)
	r := opened(t, s)
	for i := range 100 {
		put(t, r, string([]byte{'a', byte(i)}), "v")
	}
	all, _ := r.Range("", "", 1000)
	same := func(other *tree.Tree, count int) {
		t.Helper()
		stands(t, other, count, r.Depth(), r.Room())
		if l, e := other.Range("", "", 1000); !slices.Equal(l, all[:count]) || e != api.OK {
			t.Error(len(l), e)
		}
	}
	same(opened(t, s), 100)
	told(t, "Commit", s.Commit(), api.OK)
	same(opened(t, s), 100)
	put(t, r, "b", "never committed")
	d.Crash(nil)
	s = mounted(t, d, 61, 60)
	r = opened(t, s)
	same(r, 100)
	drop(t, r, "a\x63")
	told(t, "Commit", s.Commit(), api.OK)
	told(t, "Checkpoint", s.Checkpoint(), api.OK)
	d.Crash(nil)
	same(opened(t, mounted(t, d, 61, 60)), 99)
}

func TestMarks(t *testing.T) {
	s, r := fresh(t, 60)
	empty := r.Mark()
	for i := range 80 {
		put(t, r, string([]byte{'a', byte(i)}), "v")
	}
	full, pages, all := r.Mark(), texts(t, s), []int{r.Count(), r.Depth(), r.Room(), s.Dirty()}
	for i := range 80 {
		drop(t, r, string([]byte{'a', byte(i)}))
	}
	put(t, r, "b", "1")
	isFull := func() {
		t.Helper()
		if got := []int{r.Count(), r.Depth(), r.Room(), s.Dirty()}; !slices.Equal(got, all) || !slices.Equal(texts(t, s), pages) {
			t.Error(got, all)
		}
		told(t, "Check", r.Check(), api.OK)
		gets(t, r, "a\x10", "v")
		misses(t, r, "b")
	}
	// To one and the same again and again, whatever was done behind it; to an earlier one, and to a later one from there.
	for i := range 3 {
		told(t, "Back", r.Back(full), api.OK)
		isFull()
		put(t, r, "b", strings.Repeat("v", i))
		drop(t, r, "a\x10")
	}
	told(t, "Back", r.Back(empty), api.OK)
	stands(t, r, 0, 0, 59)
	if s.Dirty() != 0 {
		t.Errorf("%d pages wait", s.Dirty())
	}
	misses(t, r, "a\x10")
	told(t, "Back", r.Back(full), api.OK)
	isFull()
	// A commit of nothing doesn't end a mark, one of something does.
	told(t, "Commit", s.Commit(), api.OK)
	told(t, "Back", r.Back(full), api.ErrArg)
	isNow := r.Mark()
	told(t, "Commit", s.Commit(), api.OK)
	put(t, r, "b", "1")
	told(t, "Back", r.Back(isNow), api.OK)
	stands(t, r, 80, all[1], all[2])
	misses(t, r, "b")
	put(t, r, "b", "1")
	told(t, "Commit", s.Commit(), api.OK)
	put(t, r, "c", "2")
	for _, m := range []*tree.Mark{nil, {}, empty, full, isNow} {
		told(t, "Back", r.Back(m), api.ErrArg)
	}
	gets(t, r, "c", "2")
	stands(t, r, 82, r.Depth(), r.Room())
}

func TestMarksOfOthers(t *testing.T) {
	s, r := fresh(t, 20)
	put(t, r, "a", "1")
	m := r.Mark()
	again := opened(t, s)
	put(t, again, "b", "2")
	told(t, "Back", again.Back(m), api.ErrArg)
	_, other := fresh(t, 20)
	told(t, "Back", other.Back(m), api.ErrArg)
	told(t, "Back", r.Back(other.Mark()), api.ErrArg)
	gets(t, again, "b", "2")
	stands(t, again, 2, 1, 18)
	stands(t, other, 0, 0, 19)
}

// A change of one pair puts no page that holds already what it is to hold: a commit takes but what was changed.
func TestOnlyWhatIsChangedWaits(t *testing.T) {
	_, s, r := placed(t, 60, 100)
	put(t, r, "k\x21", strings.Repeat("v", 3))
	if s.Dirty() != 0 {
		t.Errorf("%d pages wait for the pair that is there", s.Dirty())
	}
	put(t, r, "k\x21", strings.Repeat("w", 3))
	if s.Dirty() != 1 {
		t.Errorf("%d pages wait for one value", s.Dirty())
	}
	told(t, "Drop", r.Drop("none"), api.ErrMiss)
	if s.Dirty() != 1 {
		t.Errorf("%d pages wait behind a Drop of nothing", s.Dirty())
	}
}
