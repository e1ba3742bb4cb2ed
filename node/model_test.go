package node_test

import (
	"maps"
	"slices"
	"strings"
	"testing"

	"cistern/api"
	"cistern/node"
)

// dice tells numbers below n, the same ones in each run.
type dice uint64

func (r *dice) below(n int) int {
	*r = *r*6364136223846793005 + 1442695040888963407
	return int(uint64(*r)>>33) % n
}

func (r *dice) text(least, most int) string {
	b := make([]byte, least+r.below(most-least+1))
	for i := range b {
		b[i] = byte(r.below(256))
		if r.below(2) == 0 {
			b[i] = "abz\x00"[r.below(4)]
		}
	}
	return string(b)
}

// node tells a node in form, of so many pairs or kids.
func (r *dice) node(isLeaf bool, count int) node.Node {
	long := 1 + r.below(api.MaxKey)
	n := node.Node{Leaf: isLeaf}
	found := map[string]bool{}
	wanted := count
	if !isLeaf {
		wanted--
	}
	for len(found) < wanted {
		if k := r.text(1, long); !found[k] {
			found[k] = true
		} else {
			long = min(long+1, api.MaxKey)
		}
	}
	for _, k := range slices.Sorted(maps.Keys(found)) {
		if isLeaf {
			n.Pairs = append(n.Pairs, api.Pair{Key: k, Val: r.text(0, r.below(api.MaxVal+1))})
		} else {
			n.Keys = append(n.Keys, k)
		}
	}
	for range count {
		if !isLeaf {
			n.Kids = append(n.Kids, 1+r.below(65535))
		}
	}
	return n
}

// page makes the page of a node byte by byte, by the chapter's words.
func page(n node.Node) string {
	var b strings.Builder
	text := func(s string) {
		b.WriteByte(byte(len(s)))
		b.WriteString(s)
	}
	if n.Leaf {
		b.WriteByte(1)
		b.WriteByte(byte(len(n.Pairs)))
		for _, p := range n.Pairs {
			text(p.Key)
			text(p.Val)
		}
		return b.String()
	}
	b.WriteByte(2)
	b.WriteByte(byte(len(n.Kids)))
	for _, kid := range n.Kids {
		b.WriteByte(byte(kid % 256))
		b.WriteByte(byte(kid / 256))
	}
	for _, k := range n.Keys {
		text(k)
	}
	return b.String()
}

// All short texts of some bytes: those that Decode takes are the pages of all nodes in form that there are of these bytes.
func TestAllShortPages(t *testing.T) {
	alphabet := "\x00\x01\x02\x03a"
	taken := map[string]bool{}
	texts := []string{""}
	for range 7 {
		var longer []string
		for _, s := range texts {
			for _, c := range []byte(alphabet) {
				longer = append(longer, s+string(c))
			}
		}
		for _, s := range longer {
			n, e := node.Decode(s)
			if e == api.OK {
				taken[s] = true
				told(t, "Check", node.Check(n), api.OK)
				if back, e := node.Encode(n); back != s || e != api.OK || page(n) != s || node.Size(n) != len(s) {
					t.Fatalf("%q: %v, %q, %d", s, n, back, e)
				}
			} else if e != api.ErrForm || !same(n, node.Node{}) {
				t.Fatalf("%q: %v, %d", s, n, e)
			}
		}
		texts = longer
	}
	want := map[string]bool{}
	for _, n := range short(alphabet) {
		if s := page(n); len(s) <= 7 {
			want[s] = true
		}
	}
	if !maps.Equal(taken, want) || len(want) < 300 {
		t.Errorf("%d pages are taken, not %d", len(taken), len(want))
	}
}

// short tells the nodes in form whose pages have at most seven bytes, all of an alphabet: a leaf of no pair, or of one
// pair, as two take eight; an inner node of one kid, as two take eight with a key.
func short(alphabet string) []node.Node {
	all := []node.Node{leaf()}
	texts := []string{""}
	for from := 0; len(texts[from]) < 3; from++ {
		for _, c := range []byte(alphabet) {
			texts = append(texts, texts[from]+string(c))
		}
	}
	for _, k := range texts {
		for _, v := range texts {
			if k != "" && len(k)+len(v) <= 3 {
				all = append(all, leaf(k, v))
			}
		}
	}
	for _, low := range []byte(alphabet) {
		for _, high := range []byte(alphabet) {
			if low > 0 || high > 0 {
				all = append(all, inner(nil, int(low)+256*int(high)))
			}
		}
	}
	return all
}

// A leaf against a map, whatever is put and dropped.
func TestLeafIsAMap(t *testing.T) {
	for seed := range 300 {
		r := dice(seed)
		n := leaf()
		want := map[string]string{}
		long := 1 + r.below(3)
		for i := range 150 {
			key := r.text(1, long)
			if r.below(3) > 0 {
				val := r.text(0, 3)
				m, e := node.Put(n, api.Pair{Key: key, Val: val})
				_, there := want[key]
				if !there && len(want) == 255 {
					nothing(t, "Put", m, e, api.ErrForm)
				} else {
					want[key] = val
					is(t, "Put", m, e, ofMap(want))
					n = m
				}
			} else {
				m, e := node.Drop(n, key)
				if _, there := want[key]; !there {
					nothing(t, "Drop", m, e, api.ErrMiss)
				} else {
					delete(want, key)
					is(t, "Drop", m, e, ofMap(want))
					n = m
				}
			}
			below, sought := 0, r.text(0, long)
			for k := range want {
				if k < sought {
					below++
				}
			}
			finds(t, n, sought, below)
			if t.Failed() {
				t.Fatal("seed", seed, "step", i)
			}
		}
	}
}

// parts splits by the chapter's words.
func parts(n node.Node) (node.Node, string, node.Node) {
	if n.Leaf {
		takes := func(l []api.Pair) int {
			sum := 0
			for _, p := range l {
				sum += 2 + len(p.Key) + len(p.Val)
			}
			return sum
		}
		for i := 1; ; i++ {
			if i == len(n.Pairs)-1 || takes(n.Pairs[:i]) >= takes(n.Pairs[i:]) {
				return node.Node{Leaf: true, Pairs: n.Pairs[:i]}, n.Pairs[i].Key, node.Node{Leaf: true, Pairs: n.Pairs[i:]}
			}
		}
	}
	i := len(n.Kids) / 2
	return inner(n.Keys[:i-1], n.Kids[:i]...), n.Keys[i-1], inner(n.Keys[i:], n.Kids[i:]...)
}

// Any nodes: their pages, the places of keys, their halves, and what these make.
func TestAnyNodes(t *testing.T) {
	pages := 0
	for seed := range 4000 {
		r := dice(seed)
		isLeaf, count := r.below(2) == 0, 1+r.below(12)
		if seed%50 == 0 {
			count = 1 + r.below(255)
		}
		n := r.node(isLeaf, count)
		told(t, "Check", node.Check(n), api.OK)
		s := page(n)
		if node.Size(n) != len(s) {
			t.Errorf("Size: %d, not %d", node.Size(n), len(s))
		}
		if got, e := node.Encode(n); len(s) <= 160 {
			if got != s || e != api.OK {
				t.Errorf("Encode: %q, %d, not %q", got, e, s)
			}
			m, e := node.Decode(s)
			is(t, "Decode", m, e, n)
			pages++
		} else {
			if got != "" || e != api.ErrBig {
				t.Errorf("Encode: %q, %d of %d bytes", got, e, len(s))
			}
			m, e := node.Decode(s)
			nothing(t, "Decode", m, e, api.ErrForm)
		}
		if key := r.text(1, 2); !isLeaf {
			above := 0
			for _, k := range n.Keys {
				if k <= key {
					above++
				}
			}
			finds(t, n, key, above)
		}
		if isLeaf && count >= 2 || count >= 4 {
			a, key, b := parts(n)
			splits(t, n, a, key, b)
			m, e := node.Merge(a, key, b)
			is(t, "Merge of the halves", m, e, n)
		} else {
			_, _, _, e := node.Split(n)
			told(t, "Split", e, api.ErrMiss)
		}
		if t.Failed() {
			t.Fatal("seed", seed, n)
		}
	}
	if pages < 1000 || pages > 3000 {
		t.Errorf("%d of 4000 have room in a page", pages)
	}
}
