package queue_test

import (
	"math"
	"slices"
	"testing"

	"cistern/api"
	"cistern/queue"
)

var (
	inf   = math.Inf(1)
	nan   = math.NaN()
	minus = math.Copysign(0, -1)
)

// made is a queue of these priorities, with ids from 1 on.
func made(t *testing.T, prios ...float64) *queue.Queue {
	t.Helper()
	q := queue.New()
	for i, p := range prios {
		told(t, "Push", q.Push(i+1, p), api.OK)
	}
	return q
}

// told asks for an error's number.
func told(t *testing.T, what string, got, want api.Errno) {
	t.Helper()
	if got != want {
		t.Errorf("%s: error %d, not %d", what, got, want)
	}
}

// lists asks for the ids of all that wait, in their order, and for their count.
func lists(t *testing.T, q *queue.Queue, want ...int) {
	t.Helper()
	var got []int
	for _, x := range q.List() {
		got = append(got, x.Id)
	}
	if !slices.Equal(got, want) {
		t.Errorf("List: %v, not %v", got, want)
	}
	if n := q.Len(); n != len(want) {
		t.Errorf("Len: %d, not %d", n, len(want))
	}
}

// same: are two entries one, bit by bit? All NaN are one.
func same(a, b queue.Entry) bool {
	if math.IsNaN(a.Prio) && math.IsNaN(b.Prio) {
		return a.Id == b.Id
	}
	return a.Id == b.Id && math.Float64bits(a.Prio) == math.Float64bits(b.Prio)
}

// entry asks for an entry and an error's number.
func entry(t *testing.T, what string, got queue.Entry, e api.Errno, want queue.Entry, wantE api.Errno) {
	t.Helper()
	told(t, what, e, wantE)
	if !same(got, want) {
		t.Errorf("%s: %v, not %v", what, got, want)
	}
}

// pops asks for an entry that waits no longer.
func pops(t *testing.T, q *queue.Queue, id int, prio float64) {
	t.Helper()
	x, e := q.Pop()
	entry(t, "Pop", x, e, queue.Entry{Id: id, Prio: prio}, api.OK)
}

func TestExample(t *testing.T) {
	q := made(t, 2.5, minus, 0, nan, 2.5)
	lists(t, q, 2, 3, 1, 5, 4)
	told(t, "Set", q.Set(5, -inf), api.OK)
	lists(t, q, 5, 2, 3, 1, 4)
	told(t, "Push", q.Push(1, 0), api.ErrThere)
	told(t, "Drop", q.Drop(9), api.ErrMiss)
	lists(t, q, 5, 2, 3, 1, 4)
	pops(t, q, 5, -inf)
	lists(t, q, 2, 3, 1, 4)
}

// TestOrder pushes the edges of all numbers the wrong way round.
func TestOrder(t *testing.T) {
	least, most := math.SmallestNonzeroFloat64, math.MaxFloat64
	rising := []float64{-inf, -most, -1, math.Nextafter(-1, 0), -least, minus, 0, least, math.Nextafter(1, 0), 1, most, inf, nan}
	q := queue.New()
	for i, p := range slices.Backward(rising) {
		told(t, "Push", q.Push(i, p), api.OK)
	}
	got := q.List()
	for i, p := range rising {
		if want := (queue.Entry{Id: i, Prio: p}); len(got) != len(rising) || !same(got[i], want) {
			t.Fatalf("List: %v, not %v", got, rising)
		}
	}
	for i, p := range rising {
		pops(t, q, i, p)
	}
	lists(t, q)
}

// TestTogether: of those that stand together the one that was pushed earlier comes first, be its id or its NaN's bits as they will.
func TestTogether(t *testing.T) {
	nans := []float64{math.Float64frombits(math.MaxUint64), math.Float64frombits(0x7FF0000000000001), math.Copysign(nan, -1), nan, math.Float64frombits(math.MaxInt64)}
	for _, prios := range [][]float64{nans, {7, 7, 7, 7, 7}, {minus, minus, minus, minus, minus}, {0, 0, 0, 0, 0}, {inf, inf, inf, inf, inf}} {
		q := queue.New()
		ids := []int{3, math.MaxInt, 0, math.MinInt, -1}
		for i, id := range ids {
			told(t, "Push", q.Push(id, prios[i]), api.OK)
		}
		lists(t, q, ids...)
		for i, id := range ids {
			pops(t, q, id, prios[i])
		}
	}
}

// TestSet: a turn is that of the push, whatever Set did meanwhile; who comes back comes back last.
func TestSet(t *testing.T) {
	q := made(t, 1, 1, 1, 1)
	told(t, "Set", q.Set(1, 9), api.OK)
	lists(t, q, 2, 3, 4, 1)
	told(t, "Set", q.Set(3, 9), api.OK)
	lists(t, q, 2, 4, 1, 3)
	told(t, "Set", q.Set(1, 1), api.OK)
	told(t, "Set", q.Set(3, 1), api.OK)
	told(t, "Set", q.Set(2, 1), api.OK)
	lists(t, q, 1, 2, 3, 4)
	told(t, "Drop", q.Drop(2), api.OK)
	told(t, "Push", q.Push(2, 1), api.OK)
	lists(t, q, 1, 3, 4, 2)
	pops(t, q, 1, 1)
	told(t, "Push", q.Push(1, 1), api.OK)
	lists(t, q, 3, 4, 2, 1)
	told(t, "Set", q.Set(1, minus), api.OK)
	told(t, "Set", q.Set(2, nan), api.OK)
	pops(t, q, 1, minus)
	lists(t, q, 3, 4, 2)
	told(t, "Set", q.Set(1, 5), api.ErrMiss)
	told(t, "Set", q.Set(0, 5), api.ErrMiss)
	lists(t, q, 3, 4, 2)
}

func TestPeek(t *testing.T) {
	q := made(t, 3, 2)
	for range 3 {
		x, e := q.Peek()
		entry(t, "Peek", x, e, queue.Entry{Id: 2, Prio: 2}, api.OK)
		lists(t, q, 2, 1)
	}
	told(t, "Set", q.Set(2, 4), api.OK)
	x, e := q.Peek()
	entry(t, "Peek", x, e, queue.Entry{Id: 1, Prio: 3}, api.OK)
}

// TestDrop takes out the first one, the last one, and one between.
func TestDrop(t *testing.T) {
	q := made(t, 1, 2, 3, 4, 5)
	told(t, "Drop", q.Drop(3), api.OK)
	lists(t, q, 1, 2, 4, 5)
	told(t, "Drop", q.Drop(1), api.OK)
	lists(t, q, 2, 4, 5)
	told(t, "Drop", q.Drop(5), api.OK)
	lists(t, q, 2, 4)
	told(t, "Drop", q.Drop(5), api.ErrMiss)
	told(t, "Push", q.Push(5, 0), api.OK)
	lists(t, q, 5, 2, 4)
	told(t, "Drop", q.Drop(4), api.OK)
	told(t, "Drop", q.Drop(2), api.OK)
	told(t, "Drop", q.Drop(5), api.OK)
	lists(t, q)
}

// empty asks for the answers of a queue in which nothing waits.
func empty(t *testing.T, q *queue.Queue) {
	t.Helper()
	lists(t, q)
	x, e := q.Pop()
	entry(t, "Pop", x, e, queue.Entry{}, api.ErrMiss)
	x, e = q.Peek()
	entry(t, "Peek", x, e, queue.Entry{}, api.ErrMiss)
	told(t, "Set", q.Set(0, 1), api.ErrMiss)
	told(t, "Drop", q.Drop(0), api.ErrMiss)
}

func TestEmpty(t *testing.T) {
	empty(t, queue.New())
	empty(t, &queue.Queue{})
	q := made(t, 1)
	pops(t, q, 1, 1)
	empty(t, q)
	var z queue.Queue
	told(t, "Push", z.Push(0, 1), api.OK)
	lists(t, &z, 0)
	told(t, "Drop", z.Drop(0), api.OK)
	empty(t, &z)
}

func TestNil(t *testing.T) {
	var q *queue.Queue
	lists(t, q)
	x, e := q.Pop()
	entry(t, "Pop", x, e, queue.Entry{}, api.ErrArg)
	x, e = q.Peek()
	entry(t, "Peek", x, e, queue.Entry{}, api.ErrArg)
	told(t, "Push", q.Push(1, 1), api.ErrArg)
	told(t, "Set", q.Set(1, 1), api.ErrArg)
	told(t, "Drop", q.Drop(1), api.ErrArg)
}

// TestFull: as many as are allowed, and not one more; that one is there already is told ahead of it.
func TestFull(t *testing.T) {
	q := queue.New()
	for i := range api.MaxQueue {
		told(t, "Push", q.Push(i, float64(-i)), api.OK)
	}
	told(t, "Push", q.Push(api.MaxQueue, 0), api.ErrBig)
	told(t, "Push", q.Push(-1, nan), api.ErrBig)
	told(t, "Push", q.Push(0, 0), api.ErrThere)
	told(t, "Set", q.Set(0, 1), api.OK)
	if n := q.Len(); n != api.MaxQueue {
		t.Error("Len", n)
	}
	told(t, "Set", q.Set(api.MaxQueue, 0), api.ErrMiss)
	pops(t, q, api.MaxQueue-1, 1-api.MaxQueue)
	told(t, "Push", q.Push(-1, -1), api.OK)
	told(t, "Push", q.Push(-2, -1), api.ErrBig)
	told(t, "Drop", q.Drop(500), api.OK)
	told(t, "Push", q.Push(-2, -1), api.OK)
	told(t, "Push", q.Push(500, 0), api.ErrBig)
	if n := q.Len(); n != api.MaxQueue {
		t.Error("Len", n)
	}
}

// TestRefused: a push that is refused takes no turn and changes no priority.
func TestRefused(t *testing.T) {
	q := made(t, 1, 1)
	told(t, "Push", q.Push(1, 0), api.ErrThere)
	told(t, "Push", q.Push(1, 5), api.ErrThere)
	lists(t, q, 1, 2)
	pops(t, q, 1, 1)
}

// TestMemory: who writes into an answer changes neither the queue nor another answer.
func TestMemory(t *testing.T) {
	q := made(t, 1, 2, 3)
	a, b := q.List(), q.List()
	for i := range a {
		a[i] = queue.Entry{Id: 99, Prio: -1}
	}
	_ = append(a[:0], queue.Entry{Id: 98})
	for i, x := range b {
		entry(t, "List", x, api.OK, queue.Entry{Id: i + 1, Prio: float64(i + 1)}, api.OK)
	}
	lists(t, q, 1, 2, 3)
	b = q.List()
	told(t, "Set", q.Set(1, 9), api.OK)
	pops(t, q, 2, 2)
	for i, x := range b {
		entry(t, "an older List", x, api.OK, queue.Entry{Id: i + 1, Prio: float64(i + 1)}, api.OK)
	}
	other := queue.New()
	told(t, "Push", other.Push(7, 7), api.OK)
	lists(t, other, 7)
	lists(t, q, 3, 1)
}
