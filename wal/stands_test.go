package wal_test

import (
	"math"
	"testing"

	"cistern/api"
	"cistern/flash"
	"cistern/record"
)

// A record of which anything is otherwise than it must be ends what stands there.
func TestJustSo(t *testing.T) {
	one, two := images(1, 1), images(4, 3)
	for at := range 4 {
		for _, change := range []func(r *record.Log){
			func(r *record.Log) { r.Epoch++ },
			func(r *record.Log) { r.Epoch-- },
			func(r *record.Log) { r.Epoch = 0 },
			func(r *record.Log) { r.Seq++ },
			func(r *record.Log) { r.Seq-- },
			func(r *record.Log) { r.Seq += 8 },
			func(r *record.Log) { r.Seq -= 8 },
			func(r *record.Log) { r.Tx++ },
			func(r *record.Log) { r.Tx-- },
			func(r *record.Log) { r.Tx = 0 },
			func(r *record.Log) { r.Index++ },
			func(r *record.Log) { r.Index = (r.Index + 3) % 4 },
			func(r *record.Log) { r.Count++ },
			func(r *record.Log) { r.Count-- },
			func(r *record.Log) { r.Count = 0 },
			func(r *record.Log) { r.Count = 7 },
			func(r *record.Log) { r.Count = math.MaxInt },
			func(r *record.Log) { r.Kind, r.Page, r.Data = 3-r.Kind, 0, "" },
		} {
			d := device(t, 8)
			l := records(3, 10, two)
			put(t, d, 0, records(3, 8, one)...)
			put(t, d, 2, l...)
			opened(t, d, 0, 8, 8, 4, one, two)
			was := l[at]
			change(&l[at])
			put(t, d, 2, l...)
			if l[at] == was {
				t.Fatal("nothing is changed")
			}
			opened(t, d, 0, 8, 8, 4, one)
		}
	}
}

// A sector that isn't read, or holds no record of the log, ends what stands there.
func TestUnread(t *testing.T) {
	one, two := images(1, 1), images(4, 3)
	other, _ := record.EncodeHome(record.Home{Page: 4})
	bad, _ := record.EncodeLog(records(3, 10, two)[1])
	bad[30] ^= 1
	for at := 2; at < 6; at++ {
		for _, spoil := range []func(d *flash.Device){
			func(d *flash.Device) { d.Write(at, make([]byte, 256)) },
			func(d *flash.Device) { d.Write(at, other) },
			func(d *flash.Device) { d.Write(at, bad) },
			func(d *flash.Device) { d.Write(at, make([]byte, 256)); d.Crash([]int{2}) },
		} {
			d := device(t, 8)
			put(t, d, 0, append(records(3, 8, one), records(3, 10, two)...)...)
			put(t, d, 6, records(3, 14, images(9, 1))...)
			opened(t, d, 0, 8, 8, 4, one, two, images(9, 1))
			spoil(d)
			opened(t, d, 0, 8, 8, 4, one)
			// What stands behind it stands there still, from its own tail on.
			opened(t, d, 0, 8, 14, 4, images(9, 1))
		}
	}
}

// Epochs may rise from one transaction to the next, and not fall; the log's own counts for nothing.
func TestEpochs(t *testing.T) {
	for _, c := range []struct{ a, b, c, stand int }{
		{0, 0, 0, 3},
		{3, 3, 3, 3},
		{1, 2, 3, 3},
		{1, 9, 9, 3},
		{2, 1, 1, 1},
		{2, 1, 3, 1},
		{1, 3, 2, 2},
		{0, 1, 0, 2},
		{1 << 60, math.MaxInt, math.MaxInt, 3},
		{math.MaxInt, 1 << 60, 0, 1},
	} {
		all := [][]api.Image{images(1, 1), nil, images(7, 2)}
		d := device(t, 10)
		put(t, d, 2, records(c.a, 8, all[0])...)
		put(t, d, 4, records(c.b, 10, all[1])...)
		put(t, d, 5, records(c.c, 11, all[2])...)
		for _, epoch := range []int{0, 2, 1 << 50} {
			opened(t, d, 2, 8, 8, epoch, all[:c.stand]...)
		}
	}
}

// Within one transaction all epochs are one, even if they rise.
func TestOneEpoch(t *testing.T) {
	d := device(t, 8)
	old, new := records(1, 0, images(1, 2)), records(2, 0, images(1, 2))
	for mix := range 8 {
		for i := range 3 {
			put(t, d, i, [][]record.Log{old, new}[mix>>i&1][i])
		}
		if mix == 0 || mix == 7 {
			opened(t, d, 0, 8, 0, 3, images(1, 2))
		} else {
			opened(t, d, 0, 8, 0, 3)
		}
	}
}

// No more than size records stand in a log, even where they would be read a second time.
func TestNoMoreThanSize(t *testing.T) {
	d := device(t, 4)
	l := opened(t, d, 0, 4, 0, 1)
	told(t, "Append", l.Append(images(1, 3)), api.OK)
	opened(t, d, 0, 4, 0, 2, images(1, 3))
	told(t, "Trim", l.Trim(4), api.OK)
	told(t, "Append", l.Append(nil), api.OK)
	told(t, "Append", l.Append(images(1, 2)), api.OK)
	opened(t, d, 0, 4, 4, 2, nil, images(1, 2))
	opened(t, d, 0, 4, 0, 2)
	opened(t, d, 0, 4, 8, 2)

	// A transaction of more records than are left has no last one, whatever its first one says.
	put(t, d, 0, records(1, 0, images(1, 1))...)
	put(t, d, 2, records(1, 2, images(1, 2))[:2]...)
	opened(t, d, 0, 4, 0, 2, images(1, 1))
	put(t, d, 2, records(1, 2, images(1, 1))...)
	opened(t, d, 0, 4, 0, 2, images(1, 1), images(1, 1))
}

// The records of a log of another place, or of another size, are found where theirs are alone.
func TestPlaces(t *testing.T) {
	d := device(t, 10)
	l := opened(t, d, 3, 5, 7, 1)
	told(t, "Append", l.Append(images(2, 2)), api.OK)
	told(t, "Append", l.Append(images(8, 1)), api.OK)
	for i, r := range append(records(1, 7, images(2, 2)), records(1, 10, images(8, 1))...) {
		holds(t, d, 3+(7+i)%5, r)
	}
	opened(t, d, 3, 5, 7, 2, images(2, 2), images(8, 1))
	opened(t, d, 2, 5, 7, 2)
	opened(t, d, 3, 6, 7, 2)
	opened(t, d, 3, 5, 12, 2)
	opened(t, d, 3, 5, 2, 2)
}

// The greatest numbers that a log is opened with.
func TestGreat(t *testing.T) {
	d := device(t, api.MaxSectors)
	tail := 1 << 50
	l := opened(t, d, 1, api.MaxSectors-1, tail, tail)
	told(t, "Append", l.Append(images(1, 2)), api.OK)
	told(t, "Append", l.Append(images(0, 4000)), api.OK)
	for i, r := range records(tail, tail, images(1, 2)) {
		holds(t, d, 1+(tail+i)%(api.MaxSectors-1), r)
	}
	told(t, "Flush", d.Flush(), api.OK)
	opened(t, d, 1, api.MaxSectors-1, tail, 0, images(1, 2), images(0, 4000))
	told(t, "Trim", l.Trim(tail+3), api.OK)
	counts(t, l, tail+3, tail+4004, api.MaxSectors-1)
	unopened(t, d, 1, api.MaxSectors-1, tail+3, 0, api.ErrArg)
}

// A log of two sectors, the least there is.
func TestLeast(t *testing.T) {
	d := device(t, 3)
	l := opened(t, d, 1, 2, 0, 0)
	told(t, "Append", l.Append(images(1, 2)), api.ErrBig)
	for i := range 5 {
		told(t, "Append", l.Append(images(i, 1)), api.OK)
		told(t, "Append", l.Append(nil), api.ErrSpace)
		l = opened(t, d, 1, 2, 2*i, i+1, images(i, 1))
		told(t, "Trim", l.Trim(2*i+2), api.OK)
	}
	blank(t, d, 0)
}
