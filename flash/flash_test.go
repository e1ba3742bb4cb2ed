package flash_test

import (
	"math"
	"slices"
	"testing"

	"cistern/api"
	"cistern/flash"
)

// full is a sector of one byte.
func full(c byte) []byte {
	return slices.Repeat([]byte{c}, api.Sector)
}

// device is a new device of so many sectors.
func device(t *testing.T, sectors int) *flash.Device {
	t.Helper()
	d, e := flash.New(sectors)
	if d == nil || e != api.OK {
		t.Fatal("New", sectors, e)
	}
	return d
}

// holds asks that a sector is read as one byte all over.
func holds(t *testing.T, d *flash.Device, at int, c byte) {
	t.Helper()
	b, e := d.Read(at)
	if e != api.OK || !slices.Equal(b, full(c)) {
		t.Errorf("sector %d: %q.. %d, not %q", at, b[:min(len(b), 4)], e, c)
	}
}

// fails asks that a sector isn't read, and that there are no bytes beside the error.
func fails(t *testing.T, d *flash.Device, at int, want api.Errno) {
	t.Helper()
	if b, e := d.Read(at); e != want || len(b) != 0 {
		t.Errorf("sector %d: %d bytes and error %d, not %d", at, len(b), e, want)
	}
}

// is asks for an error.
func is(t *testing.T, e, want api.Errno) {
	t.Helper()
	if e != want {
		t.Errorf("error %d, not %d", e, want)
	}
}

// pending asks for the count of writes that wait.
func pending(t *testing.T, d *flash.Device, want int) {
	t.Helper()
	if n := d.Pending(); n != want {
		t.Errorf("%d wait, not %d", n, want)
	}
}

func TestNew(t *testing.T) {
	for _, n := range []int{1, 2, 4095, 4096} {
		d := device(t, n)
		if d.Size() != n {
			t.Error("Size", d.Size(), n)
		}
		pending(t, d, 0)
		holds(t, d, 0, 0)
		holds(t, d, n-1, 0)
		fails(t, d, n, api.ErrArg)
		is(t, d.Write(n-1, full('a')), api.OK)
		is(t, d.Flush(), api.OK)
		holds(t, d, n-1, 'a')
	}
	for _, n := range []int{0, -1, 4097, math.MinInt, math.MaxInt} {
		if d, e := flash.New(n); d != nil || e != api.ErrArg {
			t.Error("New", n, d, e)
		}
	}
}

func TestFirstExample(t *testing.T) {
	begin := func() *flash.Device {
		d := device(t, 2)
		is(t, d.Write(0, full('a')), api.OK)
		is(t, d.Flush(), api.OK)
		is(t, d.Write(0, full('b')), api.OK)
		is(t, d.Write(1, full('c')), api.OK)
		pending(t, d, 2)
		return d
	}
	d := begin()
	d.Crash([]int{2, 1})
	fails(t, d, 0, api.ErrTorn)
	holds(t, d, 1, 'c')
	d = begin()
	d.Crash(nil)
	holds(t, d, 0, 'a')
	holds(t, d, 1, 0)
	d = begin()
	d.Crash([]int{1})
	holds(t, d, 0, 'b')
	holds(t, d, 1, 0)
	pending(t, d, 0)
}

func TestSecondExample(t *testing.T) {
	d := device(t, 1)
	d.Arm(1)
	is(t, d.Write(0, full('a')), api.OK)
	is(t, d.Flush(), api.ErrDown)
	fails(t, d, 0, api.ErrDown)
	d.Crash([]int{1})
	holds(t, d, 0, 'a')
	is(t, d.Write(0, make([]byte, 255)), api.ErrArg)
}

func TestThirdExample(t *testing.T) {
	begin := func() *flash.Device {
		d := device(t, 1)
		is(t, d.Write(0, full('a')), api.OK)
		is(t, d.Write(0, full('b')), api.OK)
		return d
	}
	d := begin()
	d.Crash([]int{1, 0})
	holds(t, d, 0, 'a')
	d = begin()
	d.Crash([]int{1, 2})
	fails(t, d, 0, api.ErrTorn)
	d = begin()
	d.Crash([]int{2, 1})
	holds(t, d, 0, 'b')
	d = begin()
	d.Crash([]int{2, 0})
	fails(t, d, 0, api.ErrTorn)
}

func TestLastWriteIsRead(t *testing.T) {
	d := device(t, 3)
	for i, c := range []byte("abcd") {
		is(t, d.Write(i%2, full(c)), api.OK)
		pending(t, d, i+1)
	}
	holds(t, d, 0, 'c')
	holds(t, d, 1, 'd')
	holds(t, d, 2, 0)
	is(t, d.Flush(), api.OK)
	pending(t, d, 0)
	holds(t, d, 0, 'c')
	holds(t, d, 1, 'd')
	is(t, d.Flush(), api.OK)
	d.Crash([]int{2, 2, 2, 2})
	holds(t, d, 0, 'c')
	holds(t, d, 1, 'd')
}

// Behind every crash what was flushed is there, whatever became of the writes to other sectors.
func TestFlushedLasts(t *testing.T) {
	for pick := range 3 {
		d := device(t, 3)
		is(t, d.Write(0, full('a')), api.OK)
		is(t, d.Write(1, full('b')), api.OK)
		is(t, d.Flush(), api.OK)
		for range 5 {
			is(t, d.Write(2, full('z')), api.OK)
			d.Crash([]int{pick})
			holds(t, d, 0, 'a')
			holds(t, d, 1, 'b')
		}
		d.Arm(0)
		is(t, d.Write(0, full('y')), api.ErrDown)
		d.Crash([]int{pick})
		holds(t, d, 0, 'a')
	}
}

func TestErrorsInOrder(t *testing.T) {
	d := device(t, 2)
	is(t, d.Write(1, full('a')), api.OK)
	d.Crash([]int{2})
	ask := func(down api.Errno, torn api.Errno) {
		t.Helper()
		for _, at := range []int{-1, 2, math.MinInt, math.MaxInt} {
			fails(t, d, at, api.ErrArg)
			is(t, d.Write(at, full('a')), api.ErrArg)
			is(t, d.Write(at, nil), api.ErrArg)
		}
		for _, n := range []int{0, 1, 255, 257, 512} {
			is(t, d.Write(0, make([]byte, n)), api.ErrArg)
		}
		pending(t, d, 0)
		fails(t, d, 1, torn)
		is(t, d.Flush(), down)
	}
	ask(api.OK, api.ErrTorn)
	d.Arm(0)
	is(t, d.Flush(), api.ErrDown)
	ask(api.ErrDown, api.ErrDown)
	is(t, d.Write(0, full('a')), api.ErrDown)
	pending(t, d, 0)
}

func TestTornUntilWritten(t *testing.T) {
	d := device(t, 1)
	is(t, d.Write(0, full('a')), api.OK)
	is(t, d.Flush(), api.OK)
	is(t, d.Write(0, full('b')), api.OK)
	d.Crash([]int{2})
	fails(t, d, 0, api.ErrTorn)
	is(t, d.Flush(), api.OK)
	fails(t, d, 0, api.ErrTorn)
	is(t, d.Write(0, full('c')), api.OK)
	holds(t, d, 0, 'c')
	d.Crash([]int{0})
	fails(t, d, 0, api.ErrTorn)
	is(t, d.Write(0, full('d')), api.OK)
	is(t, d.Flush(), api.OK)
	holds(t, d, 0, 'd')
	is(t, d.Write(0, full('e')), api.OK)
	d.Crash([]int{2})
	is(t, d.Write(0, full('f')), api.OK)
	d.Crash([]int{1})
	holds(t, d, 0, 'f')
}

func TestPicksByTheirRest(t *testing.T) {
	rest := []struct{ pick, want int }{
		{0, 0}, {3, 0}, {-3, 0}, {1, 1}, {4, 1}, {-2, 1}, {-5, 1}, {2, 2}, {5, 2}, {-1, 2}, {-4, 2},
		{math.MaxInt, 1}, {math.MinInt, 1}, {math.MinInt + 1, 2},
	}
	for _, c := range rest {
		d := device(t, 1)
		is(t, d.Write(0, full('a')), api.OK)
		d.Crash([]int{c.pick, 1, 2, 7})
		switch c.want {
		case 0:
			holds(t, d, 0, 0)
		case 1:
			holds(t, d, 0, 'a')
		case 2:
			fails(t, d, 0, api.ErrTorn)
		}
	}
}

func TestArm(t *testing.T) {
	d := device(t, 2)
	d.Arm(3)
	is(t, d.Write(0, full('a')), api.OK)
	is(t, d.Write(2, full('a')), api.ErrArg)
	is(t, d.Write(0, nil), api.ErrArg)
	holds(t, d, 0, 'a')
	is(t, d.Flush(), api.OK)
	is(t, d.Flush(), api.OK)
	holds(t, d, 0, 'a')
	is(t, d.Write(1, nil), api.ErrArg)
	holds(t, d, 0, 'a')
	is(t, d.Write(1, full('b')), api.ErrDown)
	pending(t, d, 0)
	fails(t, d, 0, api.ErrDown)
	is(t, d.Flush(), api.ErrDown)
	d.Crash([]int{1, 1})
	holds(t, d, 0, 'a')
	holds(t, d, 1, 0)
	for range 10 {
		is(t, d.Flush(), api.OK)
	}
}

func TestArmAnew(t *testing.T) {
	d := device(t, 1)
	d.Arm(0)
	d.Arm(2)
	is(t, d.Flush(), api.OK)
	d.Arm(1)
	is(t, d.Flush(), api.OK)
	for _, n := range []int{-1, math.MinInt} {
		d.Arm(0)
		d.Arm(n)
		is(t, d.Flush(), api.OK)
		is(t, d.Write(0, full('a')), api.OK)
	}
	d.Arm(math.MaxInt)
	is(t, d.Flush(), api.OK)
	d.Arm(0)
	d.Crash(nil)
	is(t, d.Flush(), api.OK)
	d.Arm(0)
	is(t, d.Flush(), api.ErrDown)
	for _, n := range []int{-1, 0, 5} {
		d.Arm(n)
		is(t, d.Flush(), api.ErrDown)
		is(t, d.Write(0, full('b')), api.ErrDown)
		fails(t, d, 0, api.ErrDown)
	}
	if d.Size() != 1 {
		t.Error("Size without power", d.Size())
	}
}

// A flush that the power leaves in the lurch leaves its writes waiting, for the crash to pick.
func TestPowerOffKeepsWaiting(t *testing.T) {
	d := device(t, 2)
	is(t, d.Write(0, full('a')), api.OK)
	is(t, d.Write(1, full('b')), api.OK)
	d.Arm(0)
	is(t, d.Flush(), api.ErrDown)
	pending(t, d, 2)
	d.Crash([]int{0, 1})
	pending(t, d, 0)
	holds(t, d, 0, 0)
	holds(t, d, 1, 'b')
}

func TestErase(t *testing.T) {
	d := device(t, 3)
	is(t, d.Write(0, full('a')), api.OK)
	is(t, d.Write(1, full('b')), api.OK)
	d.Crash([]int{1, 2})
	is(t, d.Write(2, full('c')), api.OK)
	d.Arm(0)
	is(t, d.Flush(), api.ErrDown)
	d.Erase()
	pending(t, d, 0)
	for at := range 3 {
		holds(t, d, at, 0)
	}
	if d.Size() != 3 {
		t.Error("Size", d.Size())
	}
	for range 3 {
		is(t, d.Flush(), api.OK)
	}
	is(t, d.Write(0, full('d')), api.OK)
	d.Crash([]int{1})
	holds(t, d, 0, 'd')
	d.Arm(0)
	d.Erase()
	is(t, d.Flush(), api.OK)
	holds(t, d, 0, 0)
}

func TestNoMemoryIsShared(t *testing.T) {
	d := device(t, 2)
	room := append(full('a'), 'x', 'y')
	b := room[:api.Sector]
	is(t, d.Write(0, b), api.OK)
	clear(b)
	holds(t, d, 0, 'a')
	if string(room[api.Sector:]) != "xy" {
		t.Error("spare room is changed")
	}
	spoil := func() {
		t.Helper()
		got, _ := d.Read(0)
		clear(got)
		holds(t, d, 0, 'a')
		_ = append(got, 1, 2, 3)
		holds(t, d, 0, 'a')
	}
	spoil()
	is(t, d.Flush(), api.OK)
	spoil()
	holds(t, d, 1, 0)
	got, _ := d.Read(1)
	got[0] = 1
	holds(t, d, 1, 0)
	c := full('c')
	is(t, d.Write(1, c), api.OK)
	picks := []int{-2, 5, 9}
	d.Crash(picks[:1])
	c[7] = 0
	holds(t, d, 1, 'c')
	if !slices.Equal(picks, []int{-2, 5, 9}) {
		t.Error("picks are changed", picks)
	}
}

func TestNil(t *testing.T) {
	var d *flash.Device
	if d.Size() != 0 || d.Pending() != 0 {
		t.Error("Size, Pending", d.Size(), d.Pending())
	}
	for _, at := range []int{-1, 0, 1} {
		fails(t, d, at, api.ErrArg)
		is(t, d.Write(at, full('a')), api.ErrArg)
		is(t, d.Write(at, nil), api.ErrArg)
	}
	is(t, d.Flush(), api.ErrArg)
	d.Arm(1)
	d.Arm(-1)
	d.Crash(nil)
	d.Crash([]int{1})
	d.Erase()
}

// A device that New didn't make has no sectors; no call of it panics.
func TestZero(t *testing.T) {
	d := new(flash.Device)
	fails(t, d, 0, api.ErrArg)
	is(t, d.Write(0, full('a')), api.ErrArg)
	is(t, d.Flush(), api.OK)
	d.Arm(0)
	d.Crash([]int{1})
	d.Erase()
	if d.Size() != 0 || d.Pending() != 0 {
		t.Error("Size, Pending", d.Size(), d.Pending())
	}
}
