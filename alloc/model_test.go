package alloc_test

import (
	"testing"

	"cistern/alloc"
	"cistern/api"
)

// dice tells numbers below n, the same ones in each run.
type dice uint64

func (r *dice) below(n int) int {
	*r = *r*6364136223846793005 + 1442695040888963407
	return int(uint64(*r)>>33) % n
}

// How a block of the plain model stands.
const (
	isFree = iota
	isUsed
	isLeaving
)

// plain is the plain model: how each block stands, and how many are kept back.
type plain struct {
	blocks []int
	kept   int
}

func (p *plain) all(state int) []int {
	var l []int
	for b, s := range p.blocks {
		if s == state {
			l = append(l, b)
		}
	}
	return l
}

func (p *plain) free() int {
	return len(p.all(isFree)) - p.kept
}

func (p *plain) take() (int, api.Errno) {
	if p.free() == 0 {
		return 0, api.ErrSpace
	}
	b := p.all(isFree)[0]
	p.blocks[b] = isUsed
	return b, api.OK
}

func (p *plain) give(b int) api.Errno {
	if b < 0 || b >= len(p.blocks) {
		return api.ErrArg
	}
	if p.blocks[b] != isUsed {
		return api.ErrMiss
	}
	p.blocks[b] = isLeaving
	return api.OK
}

func (p *plain) settle() int {
	l := p.all(isLeaving)
	for _, b := range l {
		p.blocks[b] = isFree
	}
	return len(l)
}

func (p *plain) reserve(n int) api.Errno {
	if n < 0 {
		return api.ErrArg
	}
	if n > p.free() {
		return api.ErrSpace
	}
	p.kept += n
	return api.OK
}

func (p *plain) release(n int) api.Errno {
	if n < 0 || n > p.kept {
		return api.ErrArg
	}
	p.kept -= n
	return api.OK
}

func (p *plain) copied() *plain {
	return &plain{blocks: append([]int{}, p.blocks...), kept: p.kept}
}

// step does one call of both.
func step(t *testing.T, r *dice, a *alloc.Alloc, p *plain) {
	t.Helper()
	n := len(p.blocks)
	switch r.below(12) {
	case 0, 1, 2, 3:
		b, e := a.Take()
		if wb, we := p.take(); b != wb || e != we {
			t.Errorf("Take: %d, %d, not %d, %d", b, e, wb, we)
		}
	case 4, 5, 6, 7:
		b := r.below(n+4) - 2
		told(t, "Give", a.Give(b), p.give(b))
	case 8:
		if r.below(3) == 0 {
			if got, want := a.Settle(), p.settle(); got != want {
				t.Errorf("Settle: %d, not %d", got, want)
			}
		}
	case 9, 10:
		k := r.below(min(n, 9)+3) - 1
		told(t, "Reserve", a.Reserve(k), p.reserve(k))
	case 11:
		k := r.below(p.kept+3) - 1
		told(t, "Release", a.Release(k), p.release(k))
	}
	free(t, a, p.free())
	lists(t, a, p.all(isUsed), p.all(isLeaving))
}

// All calls in any order, of one and of its copies, against the plain model.
func TestAnyOrder(t *testing.T) {
	fullTimes := 0
	for seed := range 400 {
		r := dice(seed)
		n := 1 + r.below(12)
		if seed%4 == 0 {
			n = 50 + r.below(150)
		}
		p := &plain{blocks: make([]int, n)}
		for range r.below(2 * n) {
			p.blocks[r.below(n)] = isUsed
		}
		a := fresh(t, n, p.all(isUsed)...)
		other, q := a.Copy(), p.copied()
		for i := range 200 {
			step(t, &r, a, p)
			if r.below(8) == 0 {
				step(t, &r, other, q)
			}
			switch r.below(40) {
			case 0:
				other, q = a.Copy(), p.copied()
			case 1:
				a, other, p, q = other, a, q, p
			}
			if p.free() == 0 {
				fullTimes++
			}
			if t.Failed() {
				t.Fatal("seed", seed, "step", i)
			}
		}
	}
	if fullTimes < 1000 {
		t.Errorf("only %d times no block was free", fullTimes)
	}
}
