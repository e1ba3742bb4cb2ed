package chunk_test

import (
	"maps"
	"slices"
	"testing"

	"cistern/api"
	"cistern/chunk"
	"cistern/page"
)

// picks tells what becomes of writes that wait.
func (r *dice) picks() []int {
	if r.below(2) == 0 {
		return slices.Repeat([]int{1 + r.below(6)/5}, 300)
	}
	var l []int
	for range r.below(60) {
		l = append(l, r.below(3))
	}
	return l
}

// revive mounts and opens what stands on the device behind a crash; while mounting the power may go off a few times more.
func (p *play) revive() {
	p.t.Helper()
	for again := p.dice.below(3); again > 0; again-- {
		p.d.Crash(p.dice.picks())
		p.d.Arm(p.dice.below(2))
		if _, e := page.Mount(p.d, p.log(), p.pages); e != api.ErrDown {
			told(p.t, "Mount", e, api.OK)
		}
	}
	p.d.Crash(p.dice.picks())
	p.mount()
	p.marks = nil
}

// found are the chunks that are opened, each with its bytes, as far as these are here.
func (p *play) found() map[place]lump {
	p.t.Helper()
	l := map[place]lump{}
	for _, x := range p.listed() {
		var b string
		if x.State != absent {
			var e api.Errno
			b, e = p.c.Read(x.Ino, x.Index)
			told(p.t, "Read", e, api.OK)
		}
		l[place{x.Ino, x.Index}] = lump{x.State, x.Epoch, x.Num, b}
	}
	return l
}

// bare: the chunks of a world, but for the bytes that are away.
func (w *world) bare() map[place]lump {
	l := maps.Clone(w.lumps)
	for at, x := range l {
		if x.state == absent {
			x.bytes = ""
			l[at] = x
		}
	}
	return l
}

// The power goes off at any write, and what waits is lost, kept or torn: the chunks that are opened behind it are those
// of the last commit that was answered, each with its bytes, or of one that was cut short.
func TestCrashes(t *testing.T) {
	t.Parallel()
	older, newer, lost, answers := 0, 0, 0, map[api.Errno]int{}
	for seed := range 200 {
		d := dice(seed)
		p := players(t, d, 40+d.below(60), 1+d.below(30), answers)
		last := p.w.copied()
		for i := range 12 {
			for range p.dice.below(25) {
				if p.w.free(p.blocks) > 0 || p.dice.below(3) == 0 {
					p.step()
				}
				if p.dice.below(6) == 0 {
					p.marked()
				}
			}
			cut := p.dice.below(3) == 0
			if cut {
				// The last flush of a commit, or any write.
				p.d.Arm([]int{p.s.Dirty() + 2, p.dice.below(p.s.Dirty() + 5)}[p.dice.below(2)])
			}
			e := p.s.Commit()
			if e == api.OK {
				last = p.w.copied()
				p.marks = nil
				p.settle()
			} else if e != api.ErrDown || !cut {
				t.Errorf("Commit: %d", e)
			}
			want := p.w.copied()
			p.d.Arm(-1)
			if e == api.OK {
				for range p.dice.below(25) {
					p.step()
					if p.dice.below(4) == 0 {
						p.marked()
					}
				}
			}
			if e == api.OK && p.dice.below(3) == 0 {
				continue
			}
			if !maps.Equal(p.w.lumps, want.lumps) {
				lost++
			}
			p.revive()
			switch l := p.found(); {
			case maps.Equal(l, last.bare()):
				older++
				p.w = last.copied()
			case e != api.OK && maps.Equal(l, want.bare()):
				newer++
				p.w = want
			default:
				t.Errorf("%d chunks, neither those of the last commit nor of one that was cut", len(l))
			}
			p.w.leaving = 0
			last = p.w.copied()
			p.right()
			if t.Failed() {
				t.Fatal("seed", seed, "step", i)
			}
		}
	}
	if older < 500 || newer < 50 || lost < 500 {
		t.Errorf("%d times the older chunks, %d times the newer ones, %d times something was lost", older, newer, lost)
	}
}

// A mark that was made behind another one that was gone back to counts as well: the blocks that were written since
// then have their bytes again, in memory and behind a commit and a crash.
func TestBackAndForth(t *testing.T) {
	for _, crash := range []bool{false, true} {
		y := ground(t, 50, 2)
		y.writes(2, 0, fill('a'))
		first := y.c.Mark()
		y.writes(2, 1, fill('b'))
		second := y.c.Mark()
		told(t, "Back", y.c.Back(first), api.OK)
		y.misses(2, 1)
		y.frees(1)
		y.writes(2, 0, fill('c'))
		third := y.c.Mark()
		y.is(2, 0, dirty, 0, 0, fill('c'))
		y.frees(0)
		for range 2 {
			told(t, "Back", y.c.Back(second), api.OK)
			y.is(2, 0, dirty, 0, 0, fill('a'))
			y.is(2, 1, dirty, 0, 0, fill('b'))
			y.frees(0)
			told(t, "Back", y.c.Back(third), api.OK)
			y.is(2, 0, dirty, 0, 0, fill('c'))
			y.misses(2, 1)
			y.frees(0)
			told(t, "Back", y.c.Back(first), api.OK)
			y.is(2, 0, dirty, 0, 0, fill('a'))
			y.misses(2, 1)
			y.frees(1)
		}
		told(t, "Back", y.c.Back(second), api.OK)
		if crash {
			told(t, "Commit", y.s.Commit(), api.OK)
			y.d.Crash(nil)
			y.mount()
		}
		y.is(2, 0, dirty, 0, 0, fill('a'))
		y.is(2, 1, dirty, 0, 0, fill('b'))
		y.frees(0)
		y.settles(0)
	}
}

// Beside a loss of power Back has changed nothing, if it had something to write; if it hadn't, it needs no power.
func TestBackWithoutPower(t *testing.T) {
	y := ground(t, 50, 3)
	first := y.c.Mark()
	y.writes(2, 0, fill('a'))
	second := y.c.Mark()
	told(t, "Back", y.c.Back(first), api.OK)
	y.writes(3, 0, fill('b'))
	y.d.Arm(0)
	told(t, "Back", y.c.Back(second), api.ErrDown)
	if l := y.listed(); len(l) != 1 || l[0].Ino != 3 || y.c.Free() != 2 {
		t.Error(l, y.c.Free())
	}
	told(t, "Back", y.c.Back(first), api.OK)
	if l := y.listed(); len(l) != 0 || y.c.Free() != 3 {
		t.Error(l, y.c.Free())
	}
}

// A power that goes off while one goes back to a mark touches nothing of what was committed, whatever was to be written again.
func TestBackCutShort(t *testing.T) {
	cuts, answers := 0, map[api.Errno]int{}
	for seed := range 150 {
		d := dice(seed)
		p := players(t, d, 60, 2+d.below(12), answers)
		for range 5 {
			for range 20 {
				p.step()
			}
			told(t, "Commit", p.s.Commit(), api.OK)
			p.marks = nil
			p.settle()
			last := p.w.copied()
			for range 15 {
				p.step()
				p.marked()
			}
			p.d.Arm(p.dice.below(4))
			for _, x := range p.marks {
				if p.c.Back(x.m) == api.ErrDown {
					cuts++
				}
			}
			p.revive()
			if !maps.Equal(p.found(), last.bare()) {
				t.Fatal("seed", seed)
			}
			p.w = last
			p.w.leaving = 0
			p.right()
		}
	}
	if cuts < 100 {
		t.Errorf("only %d were cut short", cuts)
	}
}

// What Back refuses.
func TestBackRefuses(t *testing.T) {
	y, other := ground(t, 50, 4), ground(t, 50, 4)
	y.writes(2, 0, fill('a'))
	m := y.c.Mark()
	y.writes(2, 0, fill('b'))
	y.refuses("Back to nothing", api.ErrArg, func() api.Errno { return y.c.Back(nil) })
	y.refuses("Back to no mark", api.ErrArg, func() api.Errno { return y.c.Back(&chunk.Mark{}) })
	y.refuses("Back to another's", api.ErrArg, func() api.Errno { return y.c.Back(other.c.Mark()) })
	other.refuses("Back to another's", api.ErrArg, func() api.Errno { return other.c.Back(m) })
	again, _ := chunk.New(y.r, y.d, y.first(), y.blocks)
	y.refuses("Back to another's on the same tree", api.ErrArg, func() api.Errno { return again.Back(m) })
	// A Settle of nothing says nothing.
	told(t, "Back", y.c.Back(m), api.OK)
	y.settles(0)
	y.writes(2, 1, fill('c'))
	y.settles(0)
	told(t, "Back", y.c.Back(m), api.OK)
	y.is(2, 0, dirty, 0, 0, fill('a'))
	y.misses(2, 1)
	y.frees(3)
	// One of something ends the mark, even if it was gone back to before.
	y.writes(2, 0, fill('b'))
	later := y.c.Mark()
	y.settles(1)
	y.refuses("Back behind a Settle", api.ErrArg, func() api.Errno { return y.c.Back(m) })
	y.refuses("Back behind a Settle", api.ErrArg, func() api.Errno { return y.c.Back(later) })
	m = y.c.Mark()
	told(t, "Back", y.c.Back(m), api.OK)
	// So does a commit of something, and one of nothing doesn't.
	told(t, "Commit", y.s.Commit(), api.OK)
	y.refuses("Back behind a commit", api.ErrArg, func() api.Errno { return y.c.Back(m) })
	m = y.c.Mark()
	told(t, "Commit", y.s.Commit(), api.OK)
	y.writes(2, 0, fill('d'))
	told(t, "Back", y.c.Back(m), api.OK)
	y.is(2, 0, dirty, 0, 0, fill('b'))
	y.frees(3)
}

// Back takes back all states, the blocks that were given back, and what others did to the tree.
func TestBackOfAll(t *testing.T) {
	y := ground(t, 50, 5)
	y.writes(2, 0, fill('a'))
	y.writes(2, 1, fill('b'))
	y.writes(2, 1, fill('c'))
	y.goes(2, 1, 3, 4)
	y.evicts(2, 1)
	told(t, "Put", y.r.Put("n", "1"), api.OK)
	m := y.c.Mark()
	for range 3 {
		told(t, "Put", y.r.Put("n", "2"), api.OK)
		y.goes(2, 0, 5, 6)
		told(t, "Fill", y.c.Fill(2, 1, fill('c')), api.OK)
		y.evicts(2, 0)
		told(t, "Cut", y.c.Cut(2, 1), api.OK)
		y.writes(2, 1, fill('d'))
		y.frees(0)
		told(t, "Back", y.c.Back(m), api.OK)
		y.is(2, 0, dirty, 0, 0, fill('a'))
		y.is(2, 1, absent, 3, 4, fill('c'))
		y.frees(2)
		if v, e := y.r.Get("n"); v != "1" || e != api.OK {
			t.Error(v, e)
		}
	}
	y.settles(2)
	y.frees(4)
}

// A block that a chunk had isn't written again ahead of Settle, so what lasts is whole, whatever the crash makes of the rest.
func TestNeverWrittenOver(t *testing.T) {
	for pick := range 3 {
		y := ground(t, 50, 6)
		for i := range 3 {
			y.writes(2, i, fill(byte('a'+i)))
		}
		y.goes(2, 1, 1, 1)
		y.goes(2, 2, 1, 2)
		told(t, "Commit", y.s.Commit(), api.OK)
		y.settles(0)
		y.writes(2, 0, fill('x'))
		y.evicts(2, 1)
		told(t, "Cut", y.c.Cut(2, 2), api.OK)
		y.writes(3, 0, fill('y'))
		y.writes(3, 1, fill('z'))
		y.noWrite(api.ErrSpace, 3, 2, fill('z'))
		y.d.Crash(slices.Repeat([]int{pick}, 99))
		y.mount()
		y.is(2, 0, dirty, 0, 0, fill('a'))
		y.is(2, 1, clean, 1, 1, fill('b'))
		y.is(2, 2, clean, 1, 2, fill('c'))
		y.frees(3)
		if n := len(y.listed()); n != 3 {
			t.Error(n)
		}
	}
}
