package tree_test

import (
	"maps"
	"slices"
	"strings"
	"testing"

	"cistern/api"
	"cistern/page"
	"cistern/tree"
)

// dice tells numbers below n, the same ones in each run.
type dice uint64

func (r *dice) below(n int) int {
	*r = *r*6364136223846793005 + 1442695040888963407
	return int(uint64(*r)>>33) % n
}

// habit says what keys and values are like: of which lengths, and of how many letters.
type habit struct{ shortKey, longKey, longs, letters, val int }

func (r *dice) habit() habit {
	return habit{1 + r.below(3), 1 + r.below(api.MaxKey), r.below(4), 2 + r.below(254), r.below(api.MaxVal + 1)}
}

func (r *dice) key(h habit) string {
	b := make([]byte, 1+r.below(h.shortKey))
	if r.below(4) < h.longs {
		b = make([]byte, h.longKey)
	}
	for i := range b {
		// What tells keys apart stands at their beginnings.
		b[i] = 'a'
		if i < 3 {
			b[i] = byte(r.below(h.letters))
		}
	}
	return string(b)
}

func (r *dice) val(h habit) string {
	switch r.below(3) {
	case 0:
		return strings.Repeat("v", h.val)
	case 1:
		return strings.Repeat("w", r.below(api.MaxVal+1))
	}
	return strings.Repeat("x", r.below(4))
}

// model is a map beside a tree.
type model struct {
	t     *testing.T
	s     *page.Store
	r     *tree.Tree
	pairs map[string]string
}

// sorted tells the pairs of a span.
func (m *model) sorted(from, to string, most int) []api.Pair {
	var l []api.Pair
	for _, k := range slices.Sorted(maps.Keys(m.pairs)) {
		if k >= from && (to == "" || k < to) && len(l) < most {
			l = append(l, api.Pair{Key: k, Val: m.pairs[k]})
		}
	}
	return l
}

// someKey is one that is there, or any.
func (m *model) someKey(r *dice, h habit) string {
	if len(m.pairs) > 0 && r.below(2) == 0 {
		return slices.Sorted(maps.Keys(m.pairs))[r.below(len(m.pairs))]
	}
	return r.key(h)
}

// put puts into both; it tells if there was no room.
func (m *model) put(key, val string) bool {
	m.t.Helper()
	before, room, depth, dirty := texts(m.t, m.s), m.r.Room(), m.r.Depth(), m.s.Dirty()
	switch e := m.r.Put(key, val); e {
	case api.OK:
		m.pairs[key] = val
		return false
	case api.ErrSpace:
		old, there := m.pairs[key]
		if room >= depth+2 || there && len(val) <= len(old) {
			m.t.Errorf("no room for %q with %d pages, %d deep, the old one %t %q", val, room, depth, there, old)
		}
		if !slices.Equal(texts(m.t, m.s), before) || m.r.Room() != room || m.r.Depth() != depth || m.s.Dirty() != dirty {
			m.t.Error("a Put that was refused changed something")
		}
	default:
		m.t.Errorf("Put: %d", e)
	}
	return true
}

func (m *model) drop(key string) {
	m.t.Helper()
	want := api.ErrMiss
	if _, there := m.pairs[key]; there {
		want = api.OK
	}
	told(m.t, "Drop", m.r.Drop(key), want)
	delete(m.pairs, key)
}

func (m *model) ask(r *dice, h habit) {
	m.t.Helper()
	key := m.someKey(r, h)
	want, there := m.pairs[key]
	got, e := m.r.Get(key)
	if got != want || (e == api.OK) != there || !there && e != api.ErrMiss {
		m.t.Errorf("Get(%q): %q, %d, not %q", key, got, e, want)
	}
	from, to, most := m.someKey(r, h), m.someKey(r, h), r.below(len(m.pairs)+3)
	if r.below(3) == 0 {
		from = ""
	}
	if r.below(3) == 0 {
		to = ""
	}
	l, e := m.r.Range(from, to, most)
	if !slices.Equal(l, m.sorted(from, to, most)) || e != api.OK {
		m.t.Errorf("Range(%q, %q, %d): %d pairs, %d", from, to, most, len(l), e)
	}
}

// right asks for all that must hold at any time.
func (m *model) right() {
	m.t.Helper()
	told(m.t, "Check", m.r.Check(), api.OK)
	pairs, depth := anatomy(m.t, m.s, m.r)
	if !slices.Equal(pairs, m.sorted("", "", len(m.pairs))) || depth != m.r.Depth() || m.r.Count() != len(m.pairs) {
		m.t.Errorf("%d pairs %d deep, not %d; Count %d, Depth %d", len(pairs), depth, len(m.pairs), m.r.Count(), m.r.Depth())
	}
}

// Everything in any order, in stores of all sizes: the tree is the map, and its pages are as the chapter says.
func TestAnyOrder(t *testing.T) {
	t.Parallel()
	refused, deep := 0, 0
	for seed := range 150 {
		r := dice(seed)
		h := r.habit()
		s, tr := fresh(t, 2+r.below(50))
		m := &model{t, s, tr, map[string]string{}}
		type mark struct {
			m     *tree.Mark
			pairs map[string]string
			texts []string
			ok    bool
		}
		var marks []mark
		grows := true
		for i := range 400 {
			if i%80 == 79 {
				grows = r.below(2) == 0
			}
			switch n := r.below(20); {
			case n < 12 && grows || n < 4:
				if m.put(m.someKey(&r, h), r.val(h)) {
					refused++
				}
			case n < 15:
				m.drop(m.someKey(&r, h))
			case n < 16:
				m.ask(&r, h)
			case n < 17:
				marks = append(marks, mark{m.r.Mark(), maps.Clone(m.pairs), texts(t, s), true})
			case n < 18:
				if len(marks) == 0 || r.below(3) > 0 {
					break
				}
				if x := marks[r.below(len(marks))]; x.ok {
					told(t, "Back", m.r.Back(x.m), api.OK)
					m.pairs = maps.Clone(x.pairs)
					if !slices.Equal(texts(t, s), x.texts) {
						t.Error("Back has left pages otherwise")
					}
				} else {
					told(t, "Back", m.r.Back(x.m), api.ErrArg)
				}
			case n < 19:
				dirty := s.Dirty()
				told(t, "Commit", s.Commit(), api.OK)
				for j := range marks {
					marks[j].ok = marks[j].ok && dirty == 0
				}
				if r.below(2) == 0 {
					told(t, "Checkpoint", s.Checkpoint(), api.OK)
				}
			default:
				m.r = opened(t, s)
				marks = nil
			}
			m.right()
			if m.r.Depth() > 2 {
				deep++
			}
			if t.Failed() {
				t.Fatal("seed", seed, "step", i)
			}
		}
	}
	if refused < 500 || deep < 1000 {
		t.Errorf("%d times refused, %d times deep", refused, deep)
	}
}

// Trees that are filled until nothing goes in any more, emptied in part, and filled again, with the lengths at both ends.
func TestAlwaysFull(t *testing.T) {
	t.Parallel()
	refused, atTheEdge := 0, 0
	for seed := range 100 {
		r := dice(seed)
		s, tr := fresh(t, 5+r.below(90))
		m := &model{t, s, tr, map[string]string{}}
		key := func() string {
			b := make([]byte, []int{1, 2, 3, 31, 32, 32}[r.below(6)])
			for i := range b {
				b[i] = byte('a' + r.below(20))
			}
			return string(b)
		}
		vals := []int{0, 1, 5, 30, 43, 44, 46, 47, 48, 48}
		for range 5 {
			for misses := 0; misses < 15; {
				edge := m.r.Room() == m.r.Depth()+2
				if m.put(key(), strings.Repeat("v", vals[r.below(len(vals))])) {
					misses++
					refused++
				} else if edge {
					atTheEdge++
				}
			}
			m.right()
			// What is no longer than it was goes in however full it is.
			for _, k := range slices.Sorted(maps.Keys(m.pairs)) {
				if r.below(3) == 0 {
					m.put(k, strings.Repeat("w", r.below(len(m.pairs[k])+1)))
				}
			}
			m.right()
			for _, k := range slices.Sorted(maps.Keys(m.pairs)) {
				if r.below(3) > 0 {
					m.drop(k)
				}
			}
			m.right()
			if t.Failed() {
				t.Fatal("seed", seed)
			}
		}
	}
	if refused < 5000 || atTheEdge < 700 {
		t.Errorf("%d times refused, %d times at the edge", refused, atTheEdge)
	}
}

// Great trees of long keys, whose inner nodes have few kids: many nodes from the root to a leaf, upwards and down again.
func TestDeepTrees(t *testing.T) {
	t.Parallel()
	for seed := range 4 {
		r := dice(seed)
		s, tr := fresh(t, 1600)
		m := &model{t, s, tr, map[string]string{}}
		for len(m.pairs) < 800 {
			k := strings.Repeat("k", 20+r.below(10)) + string([]byte{byte(r.below(256)), byte(r.below(256))})
			m.pairs[k] = strings.Repeat("v", r.below(api.MaxVal+1))
			told(t, "Put", tr.Put(k, m.pairs[k]), api.OK)
			if len(m.pairs)%50 == 0 {
				m.right()
			}
		}
		if tr.Depth() < 5 {
			t.Errorf("only %d deep", tr.Depth())
		}
		// A part of all keys side by side goes first, as then whole branches go; then any.
		all := slices.Sorted(maps.Keys(m.pairs))
		from := r.below(400)
		for i, k := range slices.Concat(all[from:from+300], all[:from], all[from+300:]) {
			m.drop(k)
			if i%20 == 0 {
				m.right()
			}
			if t.Failed() {
				t.Fatal("seed", seed, "step", i)
			}
		}
		m.right()
		stands(t, tr, 0, 0, 1599)
	}
}
