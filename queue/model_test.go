package queue_test

import (
	"math"
	"slices"
	"testing"

	"cistern/api"
	"cistern/queue"
)

// model is a queue told plainly: all that wait, as they were pushed.
type model struct {
	pushed []queue.Entry
}

func (m *model) find(id int) int {
	return slices.IndexFunc(m.pushed, func(x queue.Entry) bool { return x.Id == id })
}

// ahead holds two priorities against one another by the plain words of the order of all.
func ahead(a, b float64) bool {
	if math.IsNaN(a) || math.IsNaN(b) {
		return !math.IsNaN(a)
	}
	if a == 0 && b == 0 {
		return math.Signbit(a) && !math.Signbit(b)
	}
	return a < b
}

// first is the place of the one that stands ahead of all.
func (m *model) first() int {
	best := 0
	for i, x := range m.pushed {
		if ahead(x.Prio, m.pushed[best].Prio) {
			best = i
		}
	}
	return best
}

func (m *model) push(id int, prio float64) api.Errno {
	if m.find(id) >= 0 {
		return api.ErrThere
	}
	if len(m.pushed) == 1000 {
		return api.ErrBig
	}
	m.pushed = append(m.pushed, queue.Entry{Id: id, Prio: prio})
	return api.OK
}

func (m *model) peek() (queue.Entry, api.Errno) {
	if len(m.pushed) == 0 {
		return queue.Entry{}, api.ErrMiss
	}
	return m.pushed[m.first()], api.OK
}

func (m *model) pop() (queue.Entry, api.Errno) {
	x, e := m.peek()
	if e == api.OK {
		m.drop(x.Id)
	}
	return x, e
}

func (m *model) set(id int, prio float64) api.Errno {
	i := m.find(id)
	if i < 0 {
		return api.ErrMiss
	}
	m.pushed[i].Prio = prio
	return api.OK
}

func (m *model) drop(id int) api.Errno {
	i := m.find(id)
	if i < 0 {
		return api.ErrMiss
	}
	m.pushed = slices.Delete(m.pushed, i, i+1)
	return api.OK
}

// list pops a copy till nothing waits in it.
func (m *model) list() []queue.Entry {
	c := model{slices.Clone(m.pushed)}
	var out []queue.Entry
	for len(c.pushed) > 0 {
		x, _ := c.pop()
		out = append(out, x)
	}
	return out
}

// dice is a row of numbers that looks like none, and is the same each time.
type dice uint64

func (r *dice) roll(n int) int {
	*r = *r*6364136223846793005 + 1442695040888963407
	return int(uint64(*r)>>33) % n
}

// prio is a priority: most often one of a few, so that many stand together.
func (r *dice) prio() float64 {
	few := []float64{-inf, -1, minus, 0, math.SmallestNonzeroFloat64, 1, inf, nan, math.Copysign(nan, -1)}
	if r.roll(4) == 0 {
		return float64(r.roll(2000)-1000) / 8
	}
	return few[r.roll(len(few))]
}

// step makes one call of both, with a kind that is below 4 a push.
func (r *dice) step(t *testing.T, q *queue.Queue, m *model, kind, ids int) {
	t.Helper()
	id, prio := r.roll(ids)-ids/2, r.prio()
	switch kind {
	default:
		told(t, "Push", q.Push(id, prio), m.push(id, prio))
	case 4:
		x, e := q.Pop()
		want, wantE := m.pop()
		entry(t, "Pop", x, e, want, wantE)
	case 5:
		told(t, "Drop", q.Drop(id), m.drop(id))
	case 6, 7:
		told(t, "Set", q.Set(id, prio), m.set(id, prio))
	}
	x, e := q.Peek()
	want, wantE := m.peek()
	entry(t, "Peek", x, e, want, wantE)
	if q.Len() != len(m.pushed) {
		t.Errorf("Len: %d, not %d", q.Len(), len(m.pushed))
	}
}

// alike asks for the list of both.
func alike(t *testing.T, q *queue.Queue, m *model) {
	t.Helper()
	if got, want := q.List(), m.list(); !slices.EqualFunc(got, want, same) {
		t.Fatalf("List: %v, not %v", got, want)
	}
}

// TestModel makes calls in any order, and in the end pops all that is left.
func TestModel(t *testing.T) {
	for seed := range 60 {
		r, q, m := dice(seed), queue.New(), &model{}
		ids := 2 + r.roll(60)
		for range 300 {
			r.step(t, q, m, r.roll(8), ids)
			alike(t, q, m)
			if t.Failed() {
				t.Fatal("seed", seed)
			}
		}
		for _, want := range q.List() {
			x, e := q.Pop()
			entry(t, "Pop", x, e, want, api.OK)
		}
		empty(t, q)
	}
}

// TestModelFull goes to the greatest count and round it.
func TestModelFull(t *testing.T) {
	r, q, m := dice(99), queue.New(), &model{}
	for q.Len() < 1000 && !t.Failed() {
		r.step(t, q, m, 0, 3000)
	}
	for i := range 2000 {
		r.step(t, q, m, r.roll(8), 3000)
		if i%200 == 0 {
			alike(t, q, m)
		}
		if t.Failed() {
			t.Fatal("step", i)
		}
	}
	alike(t, q, m)
}
