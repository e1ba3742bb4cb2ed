package chunk_test

import (
	"maps"
	"slices"
	"testing"

	"cistern/api"
	"cistern/chunk"
)

// forked is two blocks, both taken by c and d, and marks from ahead of a and b, and from behind them, in the same blocks.
func forked(t *testing.T) (y *yard, first, second *chunk.Mark) {
	t.Helper()
	y = ground(t, 50, 2)
	first = y.c.Mark()
	y.writes(2, 0, fill('a'))
	y.writes(2, 1, fill('b'))
	second = y.c.Mark()
	told(t, "Back", y.c.Back(first), api.OK)
	y.writes(2, 0, fill('c'))
	y.writes(2, 1, fill('d'))
	told(t, "Flush", y.d.Flush(), api.OK)
	return y, first, second
}

// are asks for the bytes of the first two chunks.
func (y *yard) are(a, b byte) {
	y.t.Helper()
	y.is(2, 0, dirty, 0, 0, fill(a))
	y.is(2, 1, dirty, 0, 0, fill(b))
	y.frees(0)
}

// The power goes off at each place of a Back that writes over the blocks of chunks, and the crash makes of it what it will:
// the chunks are those of ahead, or those of the mark, each with its bytes, and they last by the next commit.
func TestBackBetweenWrites(t *testing.T) {
	went, stayed := 0, 0
	for arm := range 4 {
		for picks := range 9 {
			y, first, second := forked(t)
			y.d.Arm(arm)
			e := y.c.Back(second)
			y.d.Crash([]int{picks % 3, picks / 3})
			x := []byte("cd")
			if e == api.OK {
				went++
				x = []byte("ab")
			} else {
				stayed++
				told(t, "Back", e, api.ErrDown)
			}
			y.are(x[0], x[1])
			switch picks % 4 {
			case 0:
				told(t, "Back", y.c.Back(first), api.OK)
				y.frees(2)
				told(t, "Back", y.c.Back(second), api.OK)
				x = []byte("ab")
			case 1:
				told(t, "Clean", y.c.Clean(2, 0, 1, 1), api.OK)
				told(t, "Evict", y.c.Evict(2, 0), api.OK)
				y.is(2, 0, absent, 1, 1, fill(x[0]))
				y.is(2, 1, dirty, 0, 0, fill(x[1]))
				continue
			}
			y.are(x[0], x[1])
			told(t, "Commit", y.s.Commit(), api.OK)
			y.settles(0)
			y.d.Crash(nil)
			y.mount()
			y.are(x[0], x[1])
		}
	}
	if went < 9 || stayed < 9 {
		t.Errorf("%d times it went back, %d times it didn't", went, stayed)
	}
}

// As long as there is no power nothing is read, and nothing is written; what needs none is done.
func TestOwedWithoutPower(t *testing.T) {
	y, first, second := forked(t)
	y.d.Arm(1)
	told(t, "Back", y.c.Back(second), api.OK)
	if b, e := y.c.Read(2, 0); b != "" || e != api.ErrDown {
		t.Error(len(b), e)
	}
	told(t, "Back", y.c.Back(second), api.OK)
	told(t, "Back", y.c.Back(first), api.OK)
	y.frees(2)
	told(t, "Back", y.c.Back(second), api.ErrDown)
	y.frees(2)
	told(t, "Write", y.c.Write(2, 0, fill('e')), api.ErrDown)
	y.d.Crash([]int{1, 1, 1})
	y.writes(2, 0, fill('e'))
	y.writes(2, 1, fill('f'))
	y.are('e', 'f')
	told(t, "Back", y.c.Back(second), api.OK)
	y.are('a', 'b')
}

// What is owed is written by the first call that changes anything, and only then is it forgotten.
func TestOwedIsPaid(t *testing.T) {
	for arm := range 4 {
		y, _, second := forked(t)
		y.d.Arm(1)
		told(t, "Back", y.c.Back(second), api.OK)
		y.d.Crash([]int{2})
		y.are('a', 'b')
		told(t, "Pending", api.Errno(y.d.Pending()), 0)
		y.d.Arm(arm)
		y.settles(0)
		y.d.Crash(nil)
		y.are('a', 'b')
		again, e := chunk.New(y.r, y.d, y.first(), 2)
		told(t, "New", e, api.OK)
		_, e = again.Read(2, 0)
		told(t, "Read", e, []api.Errno{api.ErrTorn, api.ErrTorn, api.ErrTorn, api.OK}[arm])
		// What is paid isn't kept in mind: a crash that tears a block is told again.
		told(t, "Clean", y.c.Clean(2, 0, 1, 1), api.OK)
		told(t, "Flush", y.d.Flush(), api.OK)
		told(t, "Write", y.d.Write(y.first(), []byte(fill('x'))), api.OK)
		y.d.Crash([]int{2})
		if b, e := y.c.Read(2, 0); b != "" || e != api.ErrTorn {
			t.Error(len(b), e)
		}
	}
}

// With power all is on the device behind a Back, and nothing is owed: a block that a crash tears is told, and not written.
func TestNothingIsOwed(t *testing.T) {
	y, _, second := forked(t)
	told(t, "Back", y.c.Back(second), api.OK)
	told(t, "Pending", api.Errno(y.d.Pending()), 0)
	told(t, "Write", y.d.Write(y.first(), []byte(fill('x'))), api.OK)
	y.d.Crash([]int{2})
	if b, e := y.c.Read(2, 0); b != "" || e != api.ErrTorn {
		t.Error(len(b), e)
	}
	y.settles(0)
	told(t, "Pending", api.Errno(y.d.Pending()), 0)
	if b, e := y.c.Read(2, 0); b != "" || e != api.ErrTorn {
		t.Error(len(b), e)
	}
}

// stands asks of chunks that are opened anew whether each has its bytes on the device.
func (p *play) stands() {
	p.t.Helper()
	again, e := chunk.New(p.r, p.d, p.first(), p.blocks)
	told(p.t, "New", e, api.OK)
	for at, x := range p.w.lumps {
		if x.state == absent {
			continue
		}
		if b, e := again.Read(at.ino, at.index); b != x.bytes || e != api.OK {
			p.t.Errorf("opened anew, Read(%d, %d): %d bytes, %d", at.ino, at.index, len(b), e)
		}
	}
}

// goesBack goes back to a mark, and the power may go off.
func (p *play) goesBack(errors map[api.Errno]int) api.Errno {
	p.t.Helper()
	x := p.marks[p.dice.below(len(p.marks))]
	e := p.c.Back(x.m)
	if e == api.OK {
		p.w = x.w.copied()
	} else {
		told(p.t, "Back", e, api.ErrDown)
	}
	p.frees(p.w.free(p.blocks))
	errors[e]++
	return e
}

// In any order, the power goes off while one goes back, and all else is done as it is in memory: chunks have their bytes.
func TestBackDownInAnyOrder(t *testing.T) {
	t.Parallel()
	answers, errors, owing := map[api.Errno]int{}, map[api.Errno]int{}, 0
	for seed := range 300 {
		d := dice(seed)
		p := players(t, d, 60, 1+d.below(12), answers)
		for i := range 30 {
			for range 10 {
				p.step()
				if p.dice.below(2) == 0 {
					p.marked()
				}
			}
			// A cut of nothing is a change: what is owed is paid by it.
			told(t, "Cut", p.c.Cut(77, 0), api.OK)
			told(t, "Flush", p.d.Flush(), api.OK)
			if len(p.marks) > 0 {
				p.d.Arm(p.dice.below(6))
				e := p.goesBack(errors)
				off := p.d.Flush() == api.ErrDown
				if off && e == api.OK {
					owing++
				}
				for off && p.dice.below(2) == 0 {
					p.goesBack(errors)
				}
				if off && p.dice.below(8) == 0 {
					p.settle()
				}
				p.d.Crash(p.dice.picks())
				p.right()
				if e != api.OK {
					p.stands()
				}
			}
			switch p.dice.below(6) {
			case 0:
				p.down = true
				p.step()
				p.down = false
			case 1:
				told(t, "Commit", p.s.Commit(), api.OK)
				p.marks = nil
				p.settle()
				last := p.w.copied()
				p.revive()
				if !maps.Equal(p.found(), last.bare()) {
					t.Error("opened anew they are others")
				}
				p.w = last
			case 2:
				p.settle()
				p.d.Crash(slices.Repeat([]int{1}, 99))
				p.stands()
			}
			p.right()
			if t.Failed() {
				t.Fatal("seed", seed, "step", i)
			}
		}
	}
	met(t, errors, 300, api.OK, api.ErrDown)
	if owing < 300 {
		t.Errorf("only %d times it went back without power", owing)
	}
}
