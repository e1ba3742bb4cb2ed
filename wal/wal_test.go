package wal_test

import (
	"bytes"
	"math"
	"slices"
	"strings"
	"testing"

	"cistern/api"
	"cistern/flash"
	"cistern/record"
	"cistern/wal"
)

// told asks for an error's number.
func told(t *testing.T, what string, got, want api.Errno) {
	t.Helper()
	if got != want {
		t.Errorf("%s: error %d, not %d", what, got, want)
	}
}

func device(t *testing.T, sectors int) *flash.Device {
	t.Helper()
	d, e := flash.New(sectors)
	told(t, "New", e, api.OK)
	return d
}

// opened is the log of these sectors; all that stands in it must be these transactions.
func opened(t *testing.T, d *flash.Device, first, size, tail, epoch int, want ...[]api.Image) *wal.Log {
	t.Helper()
	l, all, e := wal.Open(d, first, size, tail, epoch)
	if e != api.OK || l == nil {
		t.Fatalf("Open: error %d", e)
	}
	if !slices.EqualFunc(all, want, slices.Equal[[]api.Image]) {
		t.Errorf("Open: %v, not %v", all, want)
	}
	next := tail
	for _, tx := range want {
		next += len(tx) + 1
	}
	counts(t, l, tail, next, size)
	return l
}

// counts asks for the numbers of a log.
func counts(t *testing.T, l *wal.Log, tail, next, size int) {
	t.Helper()
	if l.Tail() != tail || l.Next() != next || l.Room() != size-(next-tail) {
		t.Errorf("tail %d, next %d, room %d; not %d, %d, %d", l.Tail(), l.Next(), l.Room(), tail, next, size-(next-tail))
	}
}

// unopened asks that there is no log, but an error.
func unopened(t *testing.T, d *flash.Device, first, size, tail, epoch int, want api.Errno) {
	t.Helper()
	l, all, e := wal.Open(d, first, size, tail, epoch)
	if l != nil || len(all) != 0 || e != want {
		t.Errorf("Open(%d, %d, %d, %d): a log %v, %d transactions, error %d, not %d", first, size, tail, epoch, l != nil, len(all), e, want)
	}
}

// images are those of so many pages, from one on.
func images(page, count int) []api.Image {
	var l []api.Image
	for i := range count {
		l = append(l, api.Image{Page: page + i, Data: strings.Repeat(string(rune('a'+(page+i)%26)), (page+i)%161)})
	}
	return l
}

// records are those of a transaction, as the chapter says.
func records(epoch, tx int, l []api.Image) []record.Log {
	var all []record.Log
	for i, im := range l {
		all = append(all, record.Log{Kind: 1, Epoch: epoch, Seq: tx + i, Tx: tx, Index: i, Count: len(l), Page: im.Page, Data: im.Data})
	}
	return append(all, record.Log{Kind: 2, Epoch: epoch, Seq: tx + len(l), Tx: tx, Index: len(l), Count: len(l)})
}

// put writes records to sectors of a device, from one on.
func put(t *testing.T, d *flash.Device, at int, l ...record.Log) {
	t.Helper()
	for i, r := range l {
		b, e := record.EncodeLog(r)
		told(t, "EncodeLog", e, api.OK)
		told(t, "Write", d.Write(at+i, b), api.OK)
	}
	told(t, "Flush", d.Flush(), api.OK)
}

// holds asks for the record that stands in a sector.
func holds(t *testing.T, d *flash.Device, at int, want record.Log) {
	t.Helper()
	b, e := d.Read(at)
	told(t, "Read", e, api.OK)
	w, e := record.EncodeLog(want)
	told(t, "EncodeLog", e, api.OK)
	if !bytes.Equal(b, w) {
		got, e := record.DecodeLog(b)
		t.Errorf("sector %d: %v and error %d, not %v", at, got, e, want)
	}
}

// blank asks that a sector was never written.
func blank(t *testing.T, d *flash.Device, at int) {
	t.Helper()
	if b, e := d.Read(at); e != api.OK || !bytes.Equal(b, make([]byte, 256)) {
		t.Errorf("sector %d was written: error %d", at, e)
	}
}

func TestExampleFound(t *testing.T) {
	d := device(t, 4)
	one := []api.Image{{Page: 7, Data: "x"}}
	l := opened(t, d, 0, 4, 0, 1)
	told(t, "Append", l.Append(one), api.OK)
	told(t, "Flush", d.Flush(), api.OK)
	d.Crash(nil)
	l = opened(t, d, 0, 4, 0, 2, one)
	counts(t, l, 0, 2, 4)
	two := []api.Image{{Page: 1, Data: "y"}, {Page: 2}}
	told(t, "Append", l.Append(two), api.ErrSpace)
	if d.Pending() != 0 {
		t.Error("what has no room is written")
	}
	told(t, "Trim", l.Trim(2), api.OK)
	told(t, "Append", l.Append(two), api.OK)
	counts(t, l, 2, 5, 4)
	for i, r := range records(2, 2, two) {
		holds(t, d, []int{2, 3, 0}[i], r)
	}
	holds(t, d, 1, records(1, 0, one)[1])
	opened(t, d, 0, 4, 2, 3, two)
}

func TestExampleLost(t *testing.T) {
	d := device(t, 4)
	l := opened(t, d, 0, 4, 0, 1)
	told(t, "Append", l.Append(images(0, 4)), api.ErrBig)
	told(t, "Append", l.Append(nil), api.OK)
	counts(t, l, 0, 1, 4)
	d = device(t, 4)
	l = opened(t, d, 0, 4, 0, 1)
	told(t, "Append", l.Append(images(7, 1)), api.OK)
	d.Crash([]int{1, 2})
	opened(t, d, 0, 4, 0, 2)
}

func TestOpenErrors(t *testing.T) {
	d := device(t, 8)
	unopened(t, nil, 0, 4, 0, 1, api.ErrArg)
	unopened(t, d, -1, 4, 0, 1, api.ErrArg)
	unopened(t, d, 0, 1, 0, 1, api.ErrArg)
	unopened(t, d, 0, 0, 0, 1, api.ErrArg)
	unopened(t, d, 0, -4, 0, 1, api.ErrArg)
	unopened(t, d, 0, 9, 0, 1, api.ErrArg)
	unopened(t, d, 5, 4, 0, 1, api.ErrArg)
	unopened(t, d, 7, 2, 0, 1, api.ErrArg)
	unopened(t, d, 8, 2, 0, 1, api.ErrArg)
	unopened(t, d, 9, 2, 0, 1, api.ErrArg)
	unopened(t, d, math.MaxInt, math.MaxInt, 0, 1, api.ErrArg)
	unopened(t, d, math.MaxInt, 2, 0, 1, api.ErrArg)
	unopened(t, d, 2, math.MaxInt, 0, 1, api.ErrArg)
	unopened(t, d, math.MinInt, 2, 0, 1, api.ErrArg)
	unopened(t, d, math.MinInt, math.MaxInt, 0, 1, api.ErrArg)
	unopened(t, d, 0, math.MinInt, 0, 1, api.ErrArg)
	unopened(t, d, 0, 4, -1, 1, api.ErrArg)
	unopened(t, d, 0, 4, 0, -1, api.ErrArg)
	unopened(t, d, 0, 4, 1<<50+1, 1, api.ErrArg)
	unopened(t, d, 0, 4, 0, 1<<50+1, api.ErrArg)
	unopened(t, d, 0, 4, math.MaxInt, math.MaxInt, api.ErrArg)
	unopened(t, d, 0, 4, math.MinInt, math.MinInt, api.ErrArg)
	unopened(t, &flash.Device{}, 0, 2, 0, 0, api.ErrArg)
	opened(t, d, 0, 8, 0, 0)
	opened(t, d, 6, 2, 0, 1)
	opened(t, d, 4, 4, 1<<50, 1<<50)
	d.Arm(0)
	told(t, "Flush", d.Flush(), api.ErrDown)
	unopened(t, d, 0, 4, 0, 1, api.ErrDown)
	unopened(t, d, 4, 4, 3, 1, api.ErrDown)
	unopened(t, d, 0, 9, 0, 1, api.ErrArg)
	unopened(t, d, 0, 4, 0, -1, api.ErrArg)
	d.Crash(nil)
	opened(t, d, 0, 8, 0, 0)
}

// Opening writes nothing, and is no step of an armed device.
func TestOpenWritesNothing(t *testing.T) {
	d := device(t, 4)
	d.Arm(0)
	opened(t, d, 0, 4, 0, 1)
	opened(t, d, 1, 3, 5, 1)
	if d.Pending() != 0 {
		t.Error("opening writes")
	}
}

func TestTornFirst(t *testing.T) {
	d := device(t, 4)
	told(t, "Write", d.Write(1, make([]byte, 256)), api.OK)
	d.Crash([]int{2})
	l := opened(t, d, 1, 3, 0, 1)
	told(t, "Append", l.Append(images(1, 1)), api.OK)
	opened(t, d, 1, 3, 0, 2, images(1, 1))
}

func TestAppend(t *testing.T) {
	d := device(t, 12)
	l := opened(t, d, 2, 7, 16, 5)
	one, two := images(155, 2), images(0, 3)
	told(t, "Append", l.Append(one), api.OK)
	if d.Pending() != 3 {
		t.Error(d.Pending(), "writes")
	}
	counts(t, l, 16, 19, 7)
	told(t, "Append", l.Append(two), api.OK)
	counts(t, l, 16, 23, 7)
	if d.Pending() != 7 {
		t.Error(d.Pending(), "writes")
	}
	for i, r := range append(records(5, 16, one), records(5, 19, two)...) {
		holds(t, d, 2+(16+i)%7, r)
	}
	for _, at := range []int{0, 1, 9, 10, 11} {
		blank(t, d, at)
	}
	told(t, "Append", l.Append(nil), api.ErrSpace)
	opened(t, d, 2, 7, 16, 6, one, two)
	opened(t, d, 2, 7, 19, 6, two)
	opened(t, d, 2, 7, 17, 6)
	opened(t, d, 2, 7, 9, 6)
	opened(t, d, 2, 7, 23, 6)
}

func TestAppendErrors(t *testing.T) {
	d := device(t, 4)
	l := opened(t, d, 0, 4, 0, 1)
	long := strings.Repeat("a", 161)
	wrong := func(want api.Errno, im ...api.Image) {
		t.Helper()
		tail, next := l.Tail(), l.Next()
		told(t, "Append", l.Append(im), want)
		counts(t, l, tail, next, 4)
		if d.Pending() != 0 {
			t.Error("what is refused is written")
		}
	}
	wrong(api.ErrForm, api.Image{Page: -1})
	wrong(api.ErrForm, api.Image{Page: math.MinInt})
	wrong(api.ErrForm, api.Image{Data: long})
	wrong(api.ErrForm, api.Image{}, api.Image{Data: strings.Repeat("a", 100000)})
	wrong(api.ErrForm, api.Image{}, api.Image{}, api.Image{}, api.Image{}, api.Image{Page: -1})
	wrong(api.ErrBig, images(0, 4)...)
	wrong(api.ErrBig, images(0, 4000)...)
	told(t, "Append", l.Append(images(0, 1)), api.OK)
	told(t, "Flush", d.Flush(), api.OK)
	wrong(api.ErrForm, api.Image{Page: -1}, api.Image{}, api.Image{})
	wrong(api.ErrForm, api.Image{}, api.Image{Data: long})
	wrong(api.ErrBig, images(0, 4)...)
	wrong(api.ErrSpace, images(0, 3)...)
	wrong(api.ErrSpace, images(0, 2)...)
	d.Arm(0)
	told(t, "Flush", d.Flush(), api.ErrDown)
	wrong(api.ErrForm, api.Image{Page: -1})
	wrong(api.ErrBig, images(0, 4)...)
	wrong(api.ErrSpace, images(0, 2)...)
	wrong(api.ErrDown, images(0, 1)...)
	wrong(api.ErrDown)
	d.Crash(nil)
	full := []api.Image{{Page: math.MaxInt, Data: strings.Repeat("\xff", 160)}}
	told(t, "Append", l.Append(full), api.OK)
	wrongRoom := l.Append(nil)
	told(t, "Append", wrongRoom, api.ErrSpace)
	opened(t, d, 0, 4, 0, 2, images(0, 1), full)
}

// The power goes behind each of the writes: those ahead of it wait, and Next stays as it was.
func TestPowerInAppend(t *testing.T) {
	for n := range 4 {
		d := device(t, 8)
		l := opened(t, d, 0, 8, 6, 1)
		told(t, "Append", l.Append(images(9, 1)), api.OK)
		told(t, "Flush", d.Flush(), api.OK)
		d.Arm(n)
		told(t, "Append", l.Append(images(3, 3)), api.ErrDown)
		counts(t, l, 6, 8, 8)
		if d.Pending() != n {
			t.Errorf("%d writes, not %d", d.Pending(), n)
		}
		unopened(t, d, 0, 8, 6, 2, api.ErrDown)
		d.Crash([]int{1, 1, 1, 1})
		for i, r := range records(1, 8, images(3, 3))[:n] {
			holds(t, d, i, r)
		}
		for at := n; at < 6; at++ {
			blank(t, d, at)
		}
		l = opened(t, d, 0, 8, 6, 2, images(9, 1))
		told(t, "Append", l.Append(images(5, 3)), api.OK)
		opened(t, d, 0, 8, 6, 3, images(9, 1), images(5, 3))
	}
}

// The device says how many writes are carried out; a transaction of that many goes in.
func TestPowerJustEnough(t *testing.T) {
	d := device(t, 8)
	l := opened(t, d, 0, 8, 0, 1)
	d.Arm(4)
	told(t, "Append", l.Append(images(3, 3)), api.OK)
	counts(t, l, 0, 4, 8)
	told(t, "Flush", d.Flush(), api.ErrDown)
}

func TestTrim(t *testing.T) {
	d := device(t, 6)
	l := opened(t, d, 0, 6, 3, 1)
	told(t, "Trim", l.Trim(2), api.ErrArg)
	told(t, "Trim", l.Trim(4), api.ErrArg)
	told(t, "Trim", l.Trim(math.MinInt), api.ErrArg)
	told(t, "Trim", l.Trim(math.MaxInt), api.ErrArg)
	told(t, "Trim", l.Trim(3), api.OK)
	told(t, "Append", l.Append(images(1, 2)), api.OK)
	told(t, "Append", l.Append(images(5, 1)), api.OK)
	waits := d.Pending()
	told(t, "Trim", l.Trim(9), api.ErrArg)
	counts(t, l, 3, 8, 6)
	told(t, "Trim", l.Trim(4), api.OK)
	counts(t, l, 4, 8, 6)
	told(t, "Trim", l.Trim(3), api.ErrArg)
	told(t, "Trim", l.Trim(6), api.OK)
	counts(t, l, 6, 8, 6)
	told(t, "Trim", l.Trim(8), api.OK)
	counts(t, l, 8, 8, 6)
	if d.Pending() != waits {
		t.Error("Trim writes")
	}
	told(t, "Append", l.Append(images(7, 5)), api.OK)
	counts(t, l, 8, 14, 6)
	told(t, "Append", l.Append(nil), api.ErrSpace)
	opened(t, d, 0, 6, 8, 2, images(7, 5))
}

func TestNil(t *testing.T) {
	var l *wal.Log
	if l.Next() != 0 || l.Tail() != 0 || l.Room() != 0 {
		t.Error("numbers of a nil log")
	}
	told(t, "Append", l.Append(nil), api.ErrArg)
	told(t, "Append", l.Append([]api.Image{{Page: -1}}), api.ErrArg)
	told(t, "Trim", l.Trim(0), api.ErrArg)
	l = &wal.Log{}
	l.Next()
	l.Tail()
	l.Room()
	if l.Append(nil) == api.OK || l.Append(images(0, 1)) == api.OK {
		t.Error("a log that wasn't opened takes a transaction")
	}
	l.Trim(0)
	l.Trim(1)
}

func TestMemory(t *testing.T) {
	d := device(t, 16)
	l := opened(t, d, 0, 16, 0, 1)
	all := []api.Image{{Page: 1, Data: "a"}, {Page: 2, Data: "b"}, {Page: 9, Data: "spare"}}
	told(t, "Append", l.Append(all[:2]), api.OK)
	if all[0] != (api.Image{Page: 1, Data: "a"}) || all[1] != (api.Image{Page: 2, Data: "b"}) || all[2] != (api.Image{Page: 9, Data: "spare"}) {
		t.Error("what is handed in is changed")
	}
	all[0], all[1] = api.Image{}, api.Image{}
	told(t, "Append", l.Append([]api.Image{{Page: 3, Data: "c"}}), api.OK)
	told(t, "Append", l.Append(nil), api.OK)
	told(t, "Append", l.Append([]api.Image{{Page: 4}}), api.OK)
	want := [][]api.Image{{{Page: 1, Data: "a"}, {Page: 2, Data: "b"}}, {{Page: 3, Data: "c"}}, nil, {{Page: 4}}}
	opened(t, d, 0, 16, 0, 2, want...)
	_, got, _ := wal.Open(d, 0, 16, 0, 2)
	for i := range got {
		got[i] = append(got[i], api.Image{Page: 99})
		clear(got[i])
	}
	_, got, _ = wal.Open(d, 0, 16, 0, 2)
	got[0] = append(got[0], api.Image{Page: 99})
	got[0][0] = api.Image{Page: 98}
	for i, tx := range got[1:] {
		if !slices.Equal(tx, want[i+1]) {
			t.Errorf("the lists of an answer share memory: %v", tx)
		}
	}
	opened(t, d, 0, 16, 0, 2, want...)
}
