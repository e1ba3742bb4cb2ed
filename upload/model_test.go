package upload_test

import (
	"cmp"
	"slices"
	"strconv"
	"testing"

	"cistern/api"
	"cistern/backoff"
	"cistern/chunk"
)

// dice tells numbers below n, the same ones in each run.
type dice uint64

func (r *dice) below(n int) int {
	*r = *r*6364136223846793005 + 1442695040888963407
	return int(uint64(*r)>>33) % n
}

// at is where a chunk stands.
type at struct{ ino, index int }

// waiter is a chunk that waits.
type waiter struct {
	at
	due, failed int
}

// play is an uploader, and the same in memory.
type play struct {
	*pier
	dice     dice
	line     []waiter // as they were pushed
	last     int
	outcomes []int
	blobs    map[string]string
	marks    []*chunk.Mark
	answers  map[api.Errno]int
	told     map[int]int
}

// bytesOf are a chunk's bytes.
func (p *play) bytesOf(x at) string {
	p.t.Helper()
	b, e := p.c.Read(x.ino, x.index)
	told(p.t, "Read", e, api.OK)
	return b
}

// list are all chunks, by their places.
func (p *play) list() map[at]chunk.Extent {
	p.t.Helper()
	l, e := p.c.List()
	told(p.t, "List", e, api.OK)
	all := map[at]chunk.Extent{}
	for _, x := range l {
		all[at{x.Ino, x.Index}] = x
	}
	return all
}

// look is what looking round does.
func (p *play) look(now int) {
	p.t.Helper()
	all := p.list()
	p.line = slices.DeleteFunc(p.line, func(w waiter) bool { return all[w.at].State != dirty })
	l, _ := p.c.List()
	for _, x := range l {
		w := waiter{at{x.Ino, x.Index}, now, 0}
		if x.State == dirty && !slices.ContainsFunc(p.line, func(o waiter) bool { return o.at == w.at }) {
			p.line = append(p.line, w)
		}
	}
}

// order are those that wait, the first one ahead: of two that are due together the one that was pushed ahead.
func (p *play) order() []waiter {
	l := slices.Clone(p.line)
	slices.SortStableFunc(l, func(a, b waiter) int { return cmp.Compare(a.due, b.due) })
	return l
}

// try is what trying a chunk does.
func (p *play) try(x waiter, now int, all map[at]chunk.Extent) api.Errno {
	p.t.Helper()
	p.last++
	out := answered
	if len(p.outcomes) > 0 {
		out, p.outcomes = p.outcomes[0], p.outcomes[1:]
	}
	if out != failed {
		name := "c-3-" + strconv.Itoa(p.last)
		if _, there := p.blobs[name]; there {
			p.t.Errorf("%s is used twice", name)
		}
		p.blobs[name] = p.bytesOf(x.at)
	}
	i := slices.IndexFunc(p.line, func(w waiter) bool { return w.at == x.at })
	if out == answered {
		p.line = slices.Delete(p.line, i, i+1)
		y := all[x.at]
		y.State, y.Epoch, y.Num = clean, 3, p.last
		all[x.at] = y
		return api.OK
	}
	w := &p.line[i]
	w.failed++
	w.due = now + backoff.Delay(doubling(), w.failed)
	return api.ErrRemote
}

// step makes a Step, and the same in memory.
func (p *play) step(now int) {
	p.t.Helper()
	p.look(now)
	all, want, wanted := p.list(), nothingWaits, api.OK
	if l := p.order(); len(l) > 0 {
		want = noneDue
		if l[0].due <= now {
			if want, wanted = wentAway, p.try(l[0], now, all); wanted != api.OK {
				want = 0
			}
		}
	}
	p.steps(now, want, wanted)
	p.answers[wanted]++
	if wanted == api.OK {
		p.told[want]++
	}
	p.right(all)
}

// push makes a Push, and the same in memory.
func (p *play) push(now, most int) {
	p.t.Helper()
	p.look(now)
	all, want, wanted := p.list(), 0, api.OK
	for _, x := range p.order() {
		if want == most || wanted != api.OK {
			break
		}
		if wanted = p.try(x, now, all); wanted == api.OK {
			want++
		}
	}
	p.pushes(now, most, want, wanted)
	p.answers[wanted]++
	p.right(all)
}

// right compares all that both tell.
func (p *play) right(all map[at]chunk.Extent) {
	p.t.Helper()
	due := 0
	if l := p.order(); len(l) > 0 {
		due = l[0].due
	}
	p.waits(len(p.line), due)
	for x, y := range p.list() {
		if y != all[x] {
			p.t.Errorf("%v: %v, not %v", x, y, all[x])
		}
	}
	if len(p.outcomes) > 0 {
		return
	}
	p.stored(len(p.blobs))
	for name, b := range p.blobs {
		if got, e := p.s.Get(name); string(got) != b || e != api.OK {
			p.t.Errorf("%s: %d bytes, %d", name, len(got), e)
		}
	}
	for x, y := range all {
		if y.State != clean || y.Epoch != 3 {
			continue
		}
		if b := p.blobs["c-3-"+strconv.Itoa(y.Num)]; b != p.bytesOf(x) {
			p.t.Errorf("%v isn't its blob", x)
		}
	}
}

// meddle does something to the chunks.
func (p *play) meddle() {
	p.t.Helper()
	x := at{2 + p.dice.below(3), p.dice.below(5)}
	switch k := p.dice.below(12); {
	case k < 7:
		e := p.c.Write(x.ino, x.index, fill(byte(p.dice.below(256))))
		if e == api.ErrSpace {
			p.c.Settle()
			p.marks = nil
		}
	case k == 7:
		p.c.Clean(x.ino, x.index, 1, p.dice.below(9))
	case k == 8:
		p.c.Evict(x.ino, x.index)
	case k == 9 && p.dice.below(3) == 0:
		p.c.Cut(x.ino, x.index)
	case k == 10 && len(p.marks) > 0:
		p.c.Back(p.marks[p.dice.below(len(p.marks))])
	case k == 11:
		p.marks = append(p.marks, p.c.Mark())
	}
}

// script tells how the next calls of the store go; there was nothing told of them.
func (p *play) script() {
	for range 1 + p.dice.below(5) {
		p.outcomes = append(p.outcomes, p.dice.below(3))
	}
	p.s.Script(p.outcomes)
}

// Everything in any order: an uploader does as it does in memory, whatever was done to the chunks in between.
func TestAnyOrder(t *testing.T) {
	answers, steps := map[api.Errno]int{}, map[int]int{}
	for seed := range 200 {
		p := &play{pier: built(t, 40, 20, doubling()), dice: dice(seed), blobs: map[string]string{}, answers: answers, told: steps}
		now := p.dice.below(100)
		for i := range 150 {
			if len(p.outcomes) == 0 && p.dice.below(3) == 0 {
				p.script()
			}
			switch k := p.dice.below(20); {
			case k < 9:
				p.meddle()
			case k < 15:
				p.step(now)
			case k < 17:
				p.push(now, p.dice.below(5))
			case k == 17:
				p.push(p.dice.below(200), p.dice.below(30))
			case k == 18:
				p.last++
				p.numbered(p.last)
			default:
				now = max(0, now+p.dice.below(30)-3)
			}
			if t.Failed() {
				t.Fatal("seed", seed, "step", i)
			}
		}
	}
	if answers[api.OK] < 3000 || answers[api.ErrRemote] < 1000 || steps[nothingWaits] < 300 || steps[wentAway] < 1000 || steps[noneDue] < 300 {
		t.Error(answers, steps)
	}
}

// With so many dirty chunks, no new ones, and so many failures: behind as many steps at ticks that are due none is dirty.
func TestAllGoesAway(t *testing.T) {
	for seed := range 100 {
		d := dice(seed)
		y := built(t, 60, 100, []backoff.Setting{doubling(), {}, {Base: 1, Factor: 3, Cap: 50000}}[seed%3])
		chunks := 1 + d.below(100)
		for i := range chunks {
			y.writes(2+i/9, i%9, byte(i))
		}
		failures := d.below(60)
		var l []int
		for range failures {
			l = append(l, failed+d.below(2))
		}
		for range d.below(80) {
			i := d.below(len(l) + 1)
			l = slices.Insert(l, i, answered)
		}
		y.s.Script(l)
		now, went, fails := d.below(1000), 0, 0
		for range chunks + failures {
			if due, e := y.u.Due(); e == api.OK {
				now = max(now, due)
			}
			switch k, e := y.u.Step(now); {
			case k == wentAway && e == api.OK:
				went++
			case k == 0 && e == api.ErrRemote:
				fails++
			case k != nothingWaits || e != api.OK:
				t.Error(k, e)
			}
		}
		if went != chunks || fails > failures || y.u.Waiting() != 0 {
			t.Fatalf("seed %d: %d went away of %d, %d failed, %d wait", seed, went, chunks, fails, y.u.Waiting())
		}
		all, _ := y.c.List()
		y.s.Script(make([]int, 300))
		used := map[int]int{}
		for _, x := range all {
			if used[x.Num]++; x.State != clean || x.Epoch != 3 || used[x.Num] > 1 {
				t.Error(x)
			}
		}
	}
}
