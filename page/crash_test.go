package page_test

import (
	"slices"
	"testing"

	"cistern/api"
	"cistern/flash"
	"cistern/page"
)

// texts tells what all pages hold; none may be refused.
func texts(t *testing.T, s *page.Store) []string {
	t.Helper()
	var l []string
	for p := range s.Pages() {
		x, e := s.Get(p)
		told(t, "Get", e, api.OK)
		l = append(l, x)
	}
	return l
}

// survivor knows what may stand on a device behind a loss of power.
type survivor struct {
	t          *testing.T
	d          *flash.Device
	s          *page.Store
	log, pages int
	last       []string // what all pages held when the last commit answered OK
	cut        []string // what a later one would have made last, if there was one
	epoch      int
}

func surviving(t *testing.T, log, pages int) *survivor {
	t.Helper()
	d, s := fresh(t, log, pages)
	return &survivor{t: t, d: d, s: s, log: log, pages: pages, last: make([]string, pages), epoch: 1}
}

// now tells what all pages hold in memory. A place can't be read with the power off, but then nothing was put on top of last.
func (v *survivor) now() []string {
	l := slices.Clone(v.last)
	for p := range l {
		if x, e := v.s.Get(p); e == api.OK {
			l[p] = x
		}
	}
	return l
}

func (v *survivor) commit() {
	v.t.Helper()
	want := v.now()
	switch e := v.s.Commit(); e {
	case api.OK:
		v.last, v.cut = want, nil
	case api.ErrDown:
		// The later ones find the power off, and make nothing last.
		if v.cut == nil {
			v.cut = want
		}
	default:
		v.t.Errorf("Commit: %d", e)
	}
}

func (v *survivor) checkpoint() {
	v.t.Helper()
	if e := v.s.Checkpoint(); e != api.OK && e != api.ErrDown {
		v.t.Errorf("Checkpoint: %d", e)
	}
}

// mount mounts anew, all pages being as they must be; it tells if the power lasted.
func (v *survivor) mount() bool {
	v.t.Helper()
	s, e := page.Mount(v.d, v.log, v.pages)
	if e == api.ErrDown {
		return false
	}
	if e != api.OK {
		v.t.Fatalf("Mount: %d", e)
	}
	got := texts(v.t, s)
	if !slices.Equal(got, v.last) && (v.cut == nil || !slices.Equal(got, v.cut)) {
		v.t.Errorf("all pages hold %q, neither %q nor %q", got, v.last, v.cut)
	}
	if s.Dirty() != 0 || s.Epoch() <= v.epoch {
		v.t.Errorf("%d wait, the epoch %d is behind %d", s.Dirty(), s.Epoch(), v.epoch)
	}
	v.s, v.last, v.cut, v.epoch = s, got, nil, s.Epoch()
	return true
}

// ways tells all lists of n picks.
func ways(n int) [][]int {
	if n == 0 {
		return [][]int{nil}
	}
	var all [][]int
	for _, w := range ways(n - 1) {
		for pick := range 3 {
			all = append(all, append(slices.Clone(w), pick))
		}
	}
	return all
}

// script is what a store is told in order; each step is done, or ends by the power.
func script(v *survivor) {
	put := func(p int, data string) { told(v.t, "Put", v.s.Put(p, data), api.OK) }
	put(0, "a")
	put(2, "b")
	v.commit()
	put(1, "c")
	put(2, "d")
	v.commit() // hasn't room without a checkpoint
	v.checkpoint()
	put(0, "e")
	put(1, "f")
	put(2, "g")
	v.commit() // all that the log has
	put(1, "")
	v.commit()
}

// Of one script: the power goes off behind each count of writes and flushes, and each write that waits then is lost,
// kept or torn, in all ways; then it goes off while mounting, again in all ways.
func TestEachCut(t *testing.T) {
	const log, pages = 4, 3
	cuts := 0
	for n := 0; ; n++ {
		v := surviving(t, log, pages)
		v.d.Arm(n)
		script(v)
		if v.d.Flush() == api.OK {
			break
		}
		for _, picks := range ways(v.d.Pending()) {
			for m := -1; m < 2; m++ {
				for again := range 3 {
					v := surviving(t, log, pages)
					v.d.Arm(n)
					script(v)
					v.d.Crash(picks)
					v.d.Arm(m)
					if !v.mount() {
						v.d.Crash([]int{again})
						v.mount()
					}
					// What comes behind it goes on from there.
					held := slices.Clone(v.last)
					put(t, v.s, 1, "z")
					commit(t, v.s)
					held[1] = "z"
					v.d.Crash(nil)
					v.last = held
					v.mount()
					cuts++
					if t.Failed() {
						t.Fatal("behind", n, "picks", picks, "mounting", m, again)
					}
				}
			}
		}
	}
	if cuts < 2000 {
		t.Errorf("only %d cuts", cuts)
	}
}

// Two losses of power in commits one behind the other, in all ways: what is left over from the first one
// is never taken for a part of the second one.
func TestTwoCuts(t *testing.T) {
	for first := range 6 {
		for second := range 6 {
			for _, a := range ways(max(first-1, 0)) {
				for _, b := range ways(min(max(second-1, 0), 3)) {
					v := surviving(t, 5, 3)
					put(t, v.s, 0, "a")
					put(t, v.s, 1, "b")
					put(t, v.s, 2, "c")
					v.d.Arm(first)
					v.commit()
					v.d.Crash(a)
					v.mount()
					put(t, v.s, 0, "d")
					put(t, v.s, 1, "e")
					v.d.Arm(second)
					v.commit()
					v.d.Crash(b)
					v.mount()
					if t.Failed() {
						t.Fatal("behind", first, a, "and", second, b)
					}
				}
			}
		}
	}
}

// Everything in any order, with the power going off anywhere, in stores of all small sizes.
func TestAnyCuts(t *testing.T) {
	older, newer, rounds := 0, 0, 0
	for seed := range 1500 {
		r := dice(seed)
		v := surviving(t, 4+r.below(6), 1+r.below(8))
		for i := range 80 {
			switch r.below(10) {
			case 0, 1, 2, 3:
				if v.s.Dirty()+1 < v.log {
					v.s.Put(r.below(v.pages), r.text())
				}
			case 4, 5, 6:
				if v.cut == nil {
					v.commit()
				}
			case 7:
				v.checkpoint()
			case 8:
				v.d.Arm(r.below(12))
			case 9:
				if v.cut == nil && r.below(3) > 0 {
					break
				}
				before, cut := v.last, v.cut
				for n := r.below(6); ; n = r.below(6) {
					v.d.Crash(r.picks())
					v.d.Arm(n - 3)
					if v.mount() {
						break
					}
				}
				if cut != nil && slices.Equal(v.last, cut) {
					newer++
				} else if cut != nil && slices.Equal(v.last, before) {
					older++
				}
			}
			if t.Failed() {
				t.Fatal("seed", seed, "step", i)
			}
		}
		rounds += v.epoch
	}
	if older < 500 || newer < 500 || rounds < 5000 {
		t.Errorf("%d times the older pages, %d times the newer ones, %d mounts", older, newer, rounds)
	}
}
