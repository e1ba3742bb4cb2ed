package chunk_test

import (
	"cmp"
	"maps"
	"slices"
	"testing"

	"cistern/api"
	"cistern/chunk"
)

// dice tells numbers below n, the same ones in each run.
type dice uint64

func (r *dice) below(n int) int {
	*r = *r*6364136223846793005 + 1442695040888963407
	return int(uint64(*r)>>33) % n
}

// place is where a chunk stands in a file.
type place struct{ ino, index int }

// lump is a chunk in memory; its bytes are known of an absent one too.
type lump struct {
	state, epoch, num int
	bytes             string
}

// world is chunks in memory.
type world struct {
	lumps   map[place]lump
	leaving int
}

func (w *world) copied() *world {
	return &world{maps.Clone(w.lumps), w.leaving}
}

// free: how many blocks of so many are free.
func (w *world) free(blocks int) int {
	n := blocks - w.leaving
	for _, x := range w.lumps {
		if x.state != absent {
			n--
		}
	}
	return n
}

// rising are the places, by number, then by index.
func (w *world) rising() []place {
	return slices.SortedFunc(maps.Keys(w.lumps), func(a, b place) int {
		return cmp.Or(cmp.Compare(a.ino, b.ino), cmp.Compare(a.index, b.index))
	})
}

// gives counts the block of what isn't here any longer.
func (w *world) gives(x lump) {
	if x.state == dirty || x.state == clean {
		w.leaving++
	}
}

// play is chunks, and the same in memory.
type play struct {
	*yard
	w       *world
	dice    dice
	marks   []mark
	answers map[api.Errno]int
	down    bool // the power goes off in a call, now and then
}

// mark is a mark, and what stood then.
type mark struct {
	m *chunk.Mark
	w *world
}

func players(t *testing.T, d dice, pages, blocks int, answers map[api.Errno]int) *play {
	t.Helper()
	return &play{yard: ground(t, pages, blocks), w: &world{lumps: map[place]lump{}}, dice: d, answers: answers}
}

// some is a place: of a chunk that is there, mostly, or of any.
func (p *play) some() place {
	if l := p.w.rising(); len(l) > 0 && p.dice.below(4) > 0 {
		return l[p.dice.below(len(l))]
	}
	x := place{p.dice.below(6), p.dice.below(34) - 1}
	if p.dice.below(6) == 0 {
		x.ino = []int{mostIno, mostIno + 1, -1, 1 << 24, 256, 1<<32 + 2}[p.dice.below(6)]
	}
	return x
}

// text is a chunk's bytes, as no other one has them.
func (p *play) text() string {
	b := make([]byte, api.Chunk)
	for i := range b {
		b[i] = byte(p.dice.below(256))
	}
	if p.dice.below(20) == 0 {
		b = b[p.dice.below(256):]
	}
	return string(b)
}

// number is one of a blob, or none.
func (p *play) number() int {
	switch p.dice.below(8) {
	case 0:
		return mostBlob
	case 1:
		return []int{mostBlob + 1, -1, 0, 1 << 32}[p.dice.below(4)]
	}
	return p.dice.below(1000)
}

// act is a call to be made, how it goes in memory, and how it goes.
func (p *play) act() (string, func() api.Errno, func() api.Errno) {
	at, b := p.some(), p.text()
	switch k := p.dice.below(20); {
	case k < 8:
		return "Write", func() api.Errno { return p.write(at, b) }, func() api.Errno { return p.c.Write(at.ino, at.index, b) }
	case k < 12:
		epoch, num := p.number(), p.number()
		return "Clean", func() api.Errno { return p.clean(at, epoch, num) }, func() api.Errno { return p.c.Clean(at.ino, at.index, epoch, num) }
	case k < 15:
		return "Evict", func() api.Errno { return p.evict(at) }, func() api.Errno { return p.c.Evict(at.ino, at.index) }
	case k < 19:
		if x, there := p.w.lumps[at]; there && p.dice.below(4) > 0 {
			b = x.bytes
		}
		return "Fill", func() api.Errno { return p.fill(at, b) }, func() api.Errno { return p.c.Fill(at.ino, at.index, b) }
	}
	return "Cut", func() api.Errno { return p.cut(at) }, func() api.Errno { return p.c.Cut(at.ino, at.index) }
}

func (p *play) write(at place, b string) api.Errno {
	switch {
	case at.ino < 1 || at.ino > mostIno || at.index < 0 || at.index > 31 || len(b) != 256:
		return api.ErrArg
	case p.w.free(p.blocks) == 0:
		return api.ErrSpace
	}
	p.w.gives(p.w.lumps[at])
	p.w.lumps[at] = lump{dirty, 0, 0, b}
	return api.OK
}

func (p *play) clean(at place, epoch, num int) api.Errno {
	if min(epoch, num) < 0 || max(epoch, num) > mostBlob {
		return api.ErrArg
	}
	x, there := p.w.lumps[at]
	if !there {
		return api.ErrMiss
	}
	if x.state != dirty {
		return api.ErrStale
	}
	p.w.lumps[at] = lump{clean, epoch, num, x.bytes}
	return api.OK
}

func (p *play) evict(at place) api.Errno {
	x, there := p.w.lumps[at]
	if !there {
		return api.ErrMiss
	}
	if x.state != clean {
		return api.ErrStale
	}
	p.w.gives(x)
	p.w.lumps[at] = lump{absent, x.epoch, x.num, x.bytes}
	return api.OK
}

func (p *play) fill(at place, b string) api.Errno {
	x, there := p.w.lumps[at]
	switch {
	case len(b) != 256:
		return api.ErrArg
	case !there:
		return api.ErrMiss
	case x.state != absent:
		return api.ErrStale
	case b != x.bytes:
		return api.ErrSum
	case p.w.free(p.blocks) == 0:
		return api.ErrSpace
	}
	p.w.lumps[at] = lump{clean, x.epoch, x.num, b}
	return api.OK
}

func (p *play) cut(at place) api.Errno {
	if at.index < 0 {
		return api.ErrArg
	}
	for _, x := range p.w.rising() {
		if x.ino == at.ino && x.index >= at.index {
			p.w.gives(p.w.lumps[x])
			delete(p.w.lumps, x)
		}
	}
	return api.OK
}

// step does one thing; what is refused for want of room in the tree, or of power, is undone in memory too.
func (p *play) step() {
	p.t.Helper()
	before, room, bound, old, pairs := p.state(), p.r.Room(), p.r.Depth()+2, p.w.copied(), p.r.Count()
	what, expect, do := p.act()
	want := expect()
	if p.down {
		p.d.Arm(p.dice.below(2))
	}
	got := do()
	p.answers[got]++
	if got == api.ErrSpace && want == api.OK {
		if room >= bound || what != "Write" || len(p.w.lumps) == len(old.lumps) {
			p.t.Errorf("%s has no room, but there are %d pages, and %d are enough", what, room, bound)
		}
		p.w, want = old, got
	}
	if got == api.ErrDown && p.down {
		p.w, want = old, got
	}
	if got != want {
		p.t.Errorf("%s: %d, not %d", what, got, want)
	}
	if p.down {
		// All that was written is kept: what is compared is what stands in memory.
		p.d.Crash(slices.Repeat([]int{1}, 1000))
	}
	if got != api.OK && (!slices.Equal(p.state(), before) || p.r.Count() != pairs) {
		p.t.Errorf("%s has changed something beside %d", what, got)
	}
}

// state tells all pairs, and how the tree stands.
func (p *play) state() []api.Pair {
	p.t.Helper()
	return append(p.pairs(), api.Pair{Key: num(p.r.Room(), 4), Val: num(p.c.Free(), 4)})
}

// right compares all that both tell.
func (p *play) right() {
	p.t.Helper()
	p.frees(p.w.free(p.blocks))
	var want []chunk.Extent
	for _, at := range p.w.rising() {
		x := p.w.lumps[at]
		want = append(want, chunk.Extent{Ino: at.ino, Index: at.index, State: x.state, Epoch: x.epoch, Num: x.num, Sum: crc(x.bytes)})
		p.is(at.ino, at.index, x.state, x.epoch, x.num, x.bytes)
	}
	if l := p.listed(); !slices.Equal(l, want) {
		p.t.Errorf("%d chunks, not %d", len(l), len(want))
	}
	if at := p.some(); p.w.lumps[at] == (lump{}) {
		p.misses(at.ino, at.index)
	}
	told(p.t, "Check", p.r.Check(), api.OK)
}

// others puts a pair that isn't a chunk's, or drops one.
func (p *play) others() {
	p.t.Helper()
	k := []string{"n", "b", "y", "w"}[p.dice.below(4)] + num(p.dice.below(50), 1)
	if p.dice.below(3) == 0 {
		if e := p.r.Drop(k); e != api.OK && e != api.ErrMiss {
			p.t.Error(e)
		}
	} else if e := p.r.Put(k, fill('v')[:p.dice.below(api.MaxVal+1)]); e != api.OK && e != api.ErrSpace {
		p.t.Error(e)
	}
}

// marked marks how all stands, or goes back to a mark, one way or the other.
func (p *play) marked() {
	p.t.Helper()
	if len(p.marks) == 0 || p.dice.below(3) > 0 {
		p.marks = append(p.marks, mark{p.c.Mark(), p.w.copied()})
		return
	}
	x := p.marks[p.dice.below(len(p.marks))]
	told(p.t, "Back", p.c.Back(x.m), api.OK)
	p.w = x.w.copied()
	p.right()
}

// settle gives all blocks free that were given back; if there were any, no mark from ahead counts.
func (p *play) settle() {
	p.t.Helper()
	n := p.w.leaving
	p.settles(n)
	p.w.leaving = 0
	if n > 0 {
		p.stale()
	}
}

// stale: no mark counts any longer.
func (p *play) stale() {
	p.t.Helper()
	for _, x := range p.marks {
		told(p.t, "Back", p.c.Back(x.m), api.ErrArg)
	}
	p.marks = nil
	p.frees(p.w.free(p.blocks))
}

// commit makes all last. A mark from ahead counts no longer, if anything was to last.
func (p *play) commit() {
	p.t.Helper()
	waits := p.s.Dirty() > 0
	told(p.t, "Commit", p.s.Commit(), api.OK)
	if waits {
		p.stale()
	}
}

// met asks that all these errors were met so many times.
func met(t *testing.T, answers map[api.Errno]int, least int, errors ...api.Errno) {
	t.Helper()
	for _, e := range errors {
		if answers[e] < least {
			t.Errorf("error %d was met %d times", e, answers[e])
		}
	}
}

// Everything in any order: chunks are as they are in memory, opened again or not, gone back to marks or not.
func TestAnyOrder(t *testing.T) {
	t.Parallel()
	answers := map[api.Errno]int{}
	for seed := range 150 {
		d := dice(seed)
		p := players(t, d, 200, 1+d.below(40), answers)
		for i := range 250 {
			switch k := p.dice.below(60); {
			case k == 0 && p.w.leaving == 0:
				// Marks of other chunks count for nothing.
				old := p.c.Mark()
				p.open()
				p.marks = append(p.marks, mark{m: old})
				p.stale()
			case k < 8:
				p.marked()
			case k < 10:
				p.settle()
			case k == 10:
				p.commit()
			case k < 14:
				p.others()
			default:
				p.step()
			}
			if i%5 == 0 {
				p.right()
			}
			if t.Failed() {
				t.Fatal("seed", seed, "step", i)
			}
		}
	}
	met(t, answers, 50, api.OK, api.ErrArg, api.ErrMiss, api.ErrStale, api.ErrSum, api.ErrSpace)
}

// In trees that are full, or nearly: what has no room changes nothing, and a chunk that is there always has room.
func TestNoRoom(t *testing.T) {
	t.Parallel()
	answers := map[api.Errno]int{}
	full := 0
	for seed := range 150 {
		d := dice(seed)
		p := players(t, d, 4+d.below(40), 30, answers)
		for room := d.below(5); p.r.Room() > room; {
			k := "n" + num(d.below(1<<30), 4) + fill('k')[:d.below(20)]
			if e := p.r.Put(k, fill('v')[:d.below(api.MaxVal+1)]); e != api.OK {
				break
			}
		}
		for i := range 150 {
			if p.w.free(p.blocks) == 0 || d.below(10) == 0 {
				p.settle()
			}
			before := answers[api.ErrSpace]
			if p.step(); p.w.free(p.blocks) > 0 {
				full += answers[api.ErrSpace] - before
			}
			if i%10 == 0 {
				p.right()
			}
			if t.Failed() {
				t.Fatal("seed", seed, "step", i)
			}
		}
	}
	met(t, answers, 300, api.OK, api.ErrSpace)
	if full < 300 {
		t.Errorf("%d times there was a block, but no page", full)
	}
}

// The power goes off at a write: a call does all of it, or nothing.
func TestPowerOff(t *testing.T) {
	t.Parallel()
	answers := map[api.Errno]int{}
	for seed := range 100 {
		d := dice(seed)
		p := players(t, d, 100, 1+d.below(40), answers)
		for i := range 150 {
			if p.dice.below(20) == 0 {
				p.commit()
				p.settle()
			}
			if p.dice.below(10) == 0 {
				p.marked()
			}
			p.down = p.dice.below(2) == 0
			p.step()
			p.down = false
			if i%10 == 0 {
				p.right()
			}
			if t.Failed() {
				t.Fatal("seed", seed, "step", i)
			}
		}
	}
	met(t, answers, 300, api.OK, api.ErrDown)
}
