package blob_test

import (
	"slices"
	"testing"

	"cistern/api"
	"cistern/blob"
)

// model is a store told plainly: pairs of a name and a text, in no order.
type model struct {
	pairs   []api.Pair
	version int
	root    string
	script  []int
	calls   int
}

// next is the outcome of a call; of outcomes below nought the rest is found by adding.
func (m *model) next() int {
	m.calls++
	if len(m.script) == 0 {
		return 0
	}
	o := m.script[0]
	m.script = m.script[1:]
	for o < 0 {
		o += 3
	}
	return o % 3
}

func (m *model) find(name string) int {
	return slices.IndexFunc(m.pairs, func(p api.Pair) bool { return p.Key == name })
}

// drop is what both Put and Delete begin with.
func (m *model) drop(name string) {
	if i := m.find(name); i >= 0 {
		m.pairs = slices.Delete(m.pairs, i, i+1)
	}
}

func (m *model) put(name, text string) api.Errno {
	o := m.next()
	if o != 1 {
		m.drop(name)
		m.pairs = append(m.pairs, api.Pair{Key: name, Val: text})
	}
	return told(o, api.OK)
}

func (m *model) get(name string) (string, api.Errno) {
	o, i := m.next(), m.find(name)
	if o != 0 {
		return "", api.ErrRemote
	}
	if i < 0 {
		return "", api.ErrMiss
	}
	return m.pairs[i].Val, api.OK
}

func (m *model) remove(name string) api.Errno {
	o := m.next()
	if o != 1 {
		m.drop(name)
	}
	return told(o, api.OK)
}

func (m *model) swap(version int, name string) api.Errno {
	o := m.next()
	if version != m.version {
		return told(o, api.ErrRoot)
	}
	if o != 1 {
		m.version, m.root = m.version+1, name
	}
	return told(o, api.OK)
}

func (m *model) names() []string {
	var l []string
	for _, p := range m.pairs {
		l = append(l, p.Key)
	}
	slices.Sort(l)
	return l
}

// told is what a call answers by its outcome.
func told(outcome int, e api.Errno) api.Errno {
	if outcome != 0 {
		return api.ErrRemote
	}
	return e
}

// dice tells numbers below n, the same ones in each run.
type dice uint64

func (r *dice) below(n int) int {
	*r = *r*6364136223846793005 + 1442695040888963407
	return int(uint64(*r)>>33) % n
}

// name is one of few, so that they meet; some have one byte, some the most.
func (r *dice) name() string {
	all := [...]string{"a", "b", "-", "0", "c-1-1", "c-1-2", "m-1-3", "abcdefghijklmnopqrstuvwxyz0123456789----"}
	return all[r.below(len(all))]
}

// step does one thing to a store and to its model, and asks that they answer alike.
func step(t *testing.T, r *dice, s *blob.Store, m *model) {
	t.Helper()
	name := r.name()
	switch r.below(8) {
	case 0, 1:
		text := string(rune('a' + r.below(26)))
		is(t, s.Put(name, []byte(text)), m.put(name, text))
	case 2:
		b, e := s.Get(name)
		text, want := m.get(name)
		is(t, e, want)
		if string(b) != text {
			t.Errorf("%s: %q, not %q", name, b, text)
		}
	case 3:
		is(t, s.Delete(name), m.remove(name))
	case 4:
		l, e := s.List()
		want, names := told(m.next(), api.OK), m.names()
		is(t, e, want)
		if want == api.OK && !slices.Equal(l, names) || want != api.OK && len(l) != 0 {
			t.Errorf("names %q, not %q", l, names)
		}
	case 5:
		if m.next() == 0 {
			rooted(t, s, m.version, m.root, api.OK)
		} else {
			rooted(t, s, 0, "", api.ErrRemote)
		}
	case 6:
		version := m.version + r.below(3) - 1
		is(t, s.Swap(version, name), m.swap(version, name))
	case 7:
		var l []int
		for range r.below(6) {
			l = append(l, r.below(13)-6)
		}
		s.Script(l)
		m.script = append(m.script, l...)
	}
	called(t, s, m.calls)
}

func TestAnyOrder(t *testing.T) {
	for seed := range 40 {
		r := dice(seed)
		s, m := blob.New(), new(model)
		for i := range 500 {
			step(t, &r, s, m)
			if t.Failed() {
				t.Fatal("seed", seed, "step", i)
			}
		}
	}
}
