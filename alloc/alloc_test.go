package alloc_test

import (
	"math"
	"slices"
	"testing"

	"cistern/alloc"
	"cistern/api"
)

func told(t *testing.T, what string, got, want api.Errno) {
	t.Helper()
	if got != want {
		t.Errorf("%s: %d, not %d", what, got, want)
	}
}

func fresh(t *testing.T, blocks int, used ...int) *alloc.Alloc {
	t.Helper()
	a, e := alloc.New(blocks, used)
	if e != api.OK || a == nil {
		t.Fatalf("New(%d, %v): %v, %d", blocks, used, a, e)
	}
	return a
}

func takes(t *testing.T, a *alloc.Alloc, want ...int) {
	t.Helper()
	for _, w := range want {
		if b, e := a.Take(); b != w || e != api.OK {
			t.Errorf("Take: %d, %d, not %d", b, e, w)
		}
	}
}

func full(t *testing.T, a *alloc.Alloc) {
	t.Helper()
	if b, e := a.Take(); b != 0 || e != api.ErrSpace {
		t.Errorf("Take: %d, %d, not ErrSpace", b, e)
	}
}

func free(t *testing.T, a *alloc.Alloc, want int) {
	t.Helper()
	if n := a.Free(); n != want {
		t.Errorf("Free: %d, not %d", n, want)
	}
}

func lists(t *testing.T, a *alloc.Alloc, used, leaving []int) {
	t.Helper()
	if l := a.Used(); !slices.Equal(l, used) {
		t.Errorf("Used: %v, not %v", l, used)
	}
	if l := a.Leaving(); !slices.Equal(l, leaving) {
		t.Errorf("Leaving: %v, not %v", l, leaving)
	}
}

// upTo tells the numbers from one on and below another.
func upTo(from, to int) []int {
	var l []int
	for i := from; i < to; i++ {
		l = append(l, i)
	}
	return l
}

func TestGivenBlocksWaitForSettle(t *testing.T) {
	a := fresh(t, 3, 1)
	takes(t, a, 0, 2)
	full(t, a)
	told(t, "Give", a.Give(0), api.OK)
	free(t, a, 0)
	lists(t, a, []int{1, 2}, []int{0})
	full(t, a)
	if n := a.Settle(); n != 1 {
		t.Errorf("Settle: %d", n)
	}
	lists(t, a, []int{1, 2}, nil)
	takes(t, a, 0)
	told(t, "Reserve", a.Reserve(1), api.ErrSpace)
	if n := a.Settle(); n != 0 {
		t.Errorf("Settle of nothing: %d", n)
	}
}

func TestBlocksAreKeptBack(t *testing.T) {
	a := fresh(t, 3)
	told(t, "Reserve", a.Reserve(2), api.OK)
	free(t, a, 1)
	takes(t, a, 0)
	full(t, a)
	told(t, "Release", a.Release(2), api.OK)
	takes(t, a, 1)
	told(t, "Release", a.Release(1), api.ErrArg)
	free(t, a, 1)
}

func TestKeptBackInParts(t *testing.T) {
	a := fresh(t, 5, 4)
	told(t, "Reserve(0)", a.Reserve(0), api.OK)
	told(t, "Reserve(3)", a.Reserve(3), api.OK)
	told(t, "Reserve(2)", a.Reserve(2), api.ErrSpace)
	told(t, "Reserve(1)", a.Reserve(1), api.OK)
	free(t, a, 0)
	told(t, "Reserve(1)", a.Reserve(1), api.ErrSpace)
	told(t, "Reserve(0)", a.Reserve(0), api.OK)
	full(t, a)
	told(t, "Release(5)", a.Release(5), api.ErrArg)
	told(t, "Release(0)", a.Release(0), api.OK)
	told(t, "Release(1)", a.Release(1), api.OK)
	free(t, a, 1)
	takes(t, a, 0)
	told(t, "Release(4)", a.Release(4), api.ErrArg)
	told(t, "Release(3)", a.Release(3), api.OK)
	takes(t, a, 1, 2, 3)
	full(t, a)
}

// What is leaving isn't free: it can't be kept back.
func TestLeavingIsNotKeptBack(t *testing.T) {
	a := fresh(t, 2, 0, 1)
	told(t, "Give", a.Give(1), api.OK)
	told(t, "Reserve", a.Reserve(1), api.ErrSpace)
	a.Settle()
	told(t, "Reserve", a.Reserve(1), api.OK)
	full(t, a)
}

func TestNew(t *testing.T) {
	for _, x := range []struct {
		blocks int
		used   []int
		want   api.Errno
	}{
		{1, nil, api.OK},
		{1, []int{0}, api.OK},
		{4096, nil, api.OK},
		{4096, []int{4095, 0}, api.OK},
		{0, nil, api.ErrArg},
		{-1, nil, api.ErrArg},
		{4097, nil, api.ErrArg},
		{math.MaxInt, nil, api.ErrArg},
		{math.MinInt, nil, api.ErrArg},
		{0, []int{0, 0}, api.ErrArg},
		{2, []int{2}, api.ErrArg},
		{2, []int{-1}, api.ErrArg},
		{2, []int{math.MaxInt}, api.ErrArg},
		{2, []int{math.MinInt}, api.ErrArg},
		{64, []int{64}, api.ErrArg},
		{2, []int{0, 0}, api.ErrThere},
		{2, []int{0, 1, 0}, api.ErrThere},
		{2, []int{1, 1, 1, 1}, api.ErrThere},
		{100, []int{99, 64, 99}, api.ErrThere},
		{2, []int{0, 0, 2}, api.ErrArg},
		{2, []int{2, 0, 0}, api.ErrArg},
	} {
		a, e := alloc.New(x.blocks, x.used)
		if e != x.want || (a != nil) != (e == api.OK) {
			t.Errorf("New(%d, %v): %v, %d, not %d", x.blocks, x.used, a, e, x.want)
			continue
		}
		if e == api.OK {
			free(t, a, x.blocks-len(x.used))
			lists(t, a, slices.Sorted(slices.Values(x.used)), nil)
		}
	}
}

// Around the ends of words, and up to the greatest count.
func TestAllBlocks(t *testing.T) {
	for _, n := range []int{1, 2, 63, 64, 65, 127, 128, 129, 4032, 4095, 4096} {
		a := fresh(t, n)
		free(t, a, n)
		takes(t, a, upTo(0, n)...)
		full(t, a)
		lists(t, a, upTo(0, n), nil)
		for b := n - 1; b >= 0; b-- {
			told(t, "Give", a.Give(b), api.OK)
			told(t, "Give again", a.Give(b), api.ErrMiss)
		}
		full(t, a)
		free(t, a, 0)
		lists(t, a, nil, upTo(0, n))
		if got := a.Settle(); got != n {
			t.Errorf("Settle: %d, not %d", got, n)
		}
		free(t, a, n)
		lists(t, a, nil, nil)
		told(t, "Reserve", a.Reserve(n+1), api.ErrSpace)
		told(t, "Reserve", a.Reserve(n), api.OK)
		full(t, a)
		told(t, "Release", a.Release(n), api.OK)
		takes(t, a, 0)
	}
}

// The least free block lies behind words of which all are used or leaving.
func TestTakeBehindWholeWords(t *testing.T) {
	a := fresh(t, 300, upTo(0, 300)...)
	for b := range 150 {
		told(t, "Give", a.Give(b), api.OK)
	}
	for _, b := range []int{299, 200, 256} {
		told(t, "Give", a.Give(b), api.OK)
	}
	a.Settle()
	takes(t, a, upTo(0, 150)...)
	told(t, "Give", a.Give(3), api.OK)
	takes(t, a, 200, 256, 299)
	full(t, a)
}

func TestWrongBlocks(t *testing.T) {
	a := fresh(t, 70, 1, 69)
	for _, b := range []int{-1, 70, 127, 128, 4095, 4096, math.MaxInt, math.MinInt} {
		told(t, "Give", a.Give(b), api.ErrArg)
	}
	told(t, "Give of a free one", a.Give(0), api.ErrMiss)
	told(t, "Give", a.Give(69), api.OK)
	told(t, "Give of a leaving one", a.Give(69), api.ErrMiss)
	for _, n := range []int{-1, math.MinInt} {
		told(t, "Reserve", a.Reserve(n), api.ErrArg)
		told(t, "Release", a.Release(n), api.ErrArg)
	}
	told(t, "Reserve", a.Reserve(math.MaxInt), api.ErrSpace)
	told(t, "Release", a.Release(math.MaxInt), api.ErrArg)
	told(t, "Release", a.Release(1), api.ErrArg)
	told(t, "Reserve", a.Reserve(1), api.OK)
	told(t, "Reserve", a.Reserve(math.MaxInt), api.ErrSpace)
	told(t, "Release", a.Release(math.MaxInt), api.ErrArg)
	free(t, a, 67)
	lists(t, a, []int{1}, []int{69})
}

func TestCopyGoesItsOwnWay(t *testing.T) {
	a := fresh(t, 130, 0, 100, 129)
	told(t, "Give", a.Give(100), api.OK)
	told(t, "Reserve", a.Reserve(2), api.OK)
	c := a.Copy()
	free(t, c, 125)
	lists(t, c, []int{0, 129}, []int{100})

	takes(t, a, 1)
	told(t, "Give", a.Give(0), api.OK)
	told(t, "Release", a.Release(1), api.OK)
	free(t, c, 125)
	lists(t, c, []int{0, 129}, []int{100})

	told(t, "Release of what the copy keeps back", c.Release(2), api.OK)
	if n := c.Settle(); n != 1 {
		t.Errorf("Settle: %d", n)
	}
	free(t, a, 125)
	lists(t, a, []int{1, 129}, []int{0, 100})
	told(t, "Release", a.Release(2), api.ErrArg)
	takes(t, c, 1, 2)
	lists(t, a, []int{1, 129}, []int{0, 100})
}

func TestNilAlloc(t *testing.T) {
	var a *alloc.Alloc
	if a.Copy() != nil || a.Free() != 0 || a.Settle() != 0 || len(a.Used()) != 0 || len(a.Leaving()) != 0 {
		t.Error("a nil one has something")
	}
	if b, e := a.Take(); b != 0 || e != api.ErrArg {
		t.Errorf("Take: %d, %d", b, e)
	}
	for _, n := range []int{-1, 0, 1} {
		told(t, "Give", a.Give(n), api.ErrArg)
		told(t, "Reserve", a.Reserve(n), api.ErrArg)
		told(t, "Release", a.Release(n), api.ErrArg)
	}
}

// One that New didn't make has no blocks.
func TestAllocWithoutNew(t *testing.T) {
	a := &alloc.Alloc{}
	free(t, a, 0)
	full(t, a)
	told(t, "Give", a.Give(0), api.ErrArg)
	told(t, "Reserve", a.Reserve(1), api.ErrSpace)
	told(t, "Release", a.Release(1), api.ErrArg)
	lists(t, a.Copy(), nil, nil)
	if a.Settle() != 0 {
		t.Error("Settle")
	}
}

func TestMemory(t *testing.T) {
	room := []int{5, 3, 9, 7, 7}
	used := room[:3]
	a := fresh(t, 10, used...)
	if !slices.Equal(room, []int{5, 3, 9, 7, 7}) {
		t.Errorf("what was handed in is %v", room)
	}
	used[0], used[1] = 0, 1
	lists(t, a, []int{3, 5, 9}, nil)

	told(t, "Give", a.Give(5), api.OK)
	for _, l := range [][]int{a.Used(), a.Leaving()} {
		for i := range l[:cap(l)] {
			l[:cap(l)][i] = 8
		}
	}
	lists(t, a, []int{3, 9}, []int{5})
}
