package tree_test

import (
	"maps"
	"slices"
	"testing"

	"cistern/api"
	"cistern/flash"
	"cistern/page"
	"cistern/tree"
)

// picks tells what becomes of writes that wait: often all of them are kept.
func (r *dice) picks() []int {
	if r.below(2) == 0 {
		return slices.Repeat([]int{1}, 300)
	}
	var l []int
	for range r.below(40) {
		l = append(l, r.below(3))
	}
	return l
}

// revived mounts and opens what stands on a device behind a crash; while mounting the power may go off a few times more.
func revived(t *testing.T, d *flash.Device, r *dice, log, pages int) (*page.Store, *tree.Tree) {
	t.Helper()
	for again := r.below(3); ; again-- {
		d.Crash(r.picks())
		if again > 0 {
			d.Arm(r.below(2))
		}
		s, e := page.Mount(d, log, pages)
		if e == api.ErrDown {
			continue
		}
		if e != api.OK {
			t.Fatal("Mount", e)
		}
		d.Arm(-1)
		return s, opened(t, s)
	}
}

// The power goes off at any write: the tree that is opened behind it has the pairs of the last commit that answered OK,
// or of a later one that was cut short.
func TestAnyCuts(t *testing.T) {
	t.Parallel()
	older, newer := 0, 0
	for seed := range 300 {
		r := dice(seed)
		h := r.habit()
		pages := 4 + r.below(30)
		log := pages + 1 + r.below(20)
		d, e := flash.New(2 + log + pages)
		told(t, "flash.New", e, api.OK)
		told(t, "Format", page.Format(d, log, pages), api.OK)
		s := mounted(t, d, log, pages)
		m := &model{t, s, opened(t, s), map[string]string{}}
		last := map[string]string{}
		for i := range 150 {
			n := r.below(20)
			if n < 11 {
				m.put(m.someKey(&r, h), r.val(h))
			} else if n < 14 {
				m.drop(m.someKey(&r, h))
			} else if n < 15 {
				told(t, "Checkpoint", m.s.Checkpoint(), api.OK)
			}
			if n < 15 {
				continue
			}
			if n < 17 {
				// The last write but one of a commit without a checkpoint, or any.
				d.Arm([]int{m.s.Dirty() + 2, r.below(2*m.s.Dirty() + 8)}[r.below(2)])
			}
			e := m.s.Commit()
			if e == api.OK {
				last = maps.Clone(m.pairs)
				if n < 18 {
					d.Crash(r.picks())
				}
			}
			if e != api.OK && e != api.ErrDown {
				t.Errorf("Commit: %d", e)
			}
			if e == api.OK && n >= 18 {
				continue
			}
			cut := maps.Clone(m.pairs)
			m.s, m.r = revived(t, d, &r, log, pages)
			l, e := m.r.Range("", "", 10000)
			told(t, "Range", e, api.OK)
			m.pairs = map[string]string{}
			for _, p := range l {
				m.pairs[p.Key] = p.Val
			}
			switch {
			case maps.Equal(m.pairs, last):
				older++
			case maps.Equal(m.pairs, cut):
				newer++
			default:
				t.Errorf("%d pairs, neither those of the last commit nor of the one that was cut", len(m.pairs))
			}
			m.right()
			last = maps.Clone(m.pairs)
			if t.Failed() {
				t.Fatal("seed", seed, "step", i)
			}
		}
	}
	if older < 1000 || newer < 300 {
		t.Errorf("%d times the older pairs, %d times the newer ones", older, newer)
	}
}

// What was put behind the last commit is gone behind a crash, whatever it did to the pages.
func TestUncommitted(t *testing.T) {
	for seed := range 30 {
		r := dice(seed)
		d, s := store(t, 70)
		m := &model{t, s, opened(t, s), map[string]string{}}
		h := r.habit()
		for range 100 {
			m.put(r.key(h), r.val(h))
		}
		told(t, "Commit", s.Commit(), api.OK)
		want, depth, room := m.sorted("", "", 1000), m.r.Depth(), m.r.Room()
		for range 100 {
			m.put(r.key(h), r.val(h))
			m.drop(m.someKey(&r, h))
		}
		d.Crash(r.picks())
		after := opened(t, mounted(t, d, 71, 70))
		stands(t, after, len(want), depth, room)
		if l, e := after.Range("", "", 1000); !slices.Equal(l, want) || e != api.OK {
			t.Error(len(l), e)
		}
	}
}
