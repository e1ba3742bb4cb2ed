package wal_test

import (
	"slices"
	"testing"

	"cistern/api"
	"cistern/flash"
	"cistern/record"
	"cistern/wal"
)

// dice tells numbers below n, the same ones in each run.
type dice uint64

func (r *dice) below(n int) int {
	*r = *r*6364136223846793005 + 1442695040888963407
	return int(uint64(*r)>>33) % n
}

func (r *dice) picks() []int {
	var l []int
	for range r.below(12) {
		l = append(l, r.below(3))
	}
	return l
}

// stands tells plainly what stands in a log: it makes all records of a transaction, and asks if they are what is read.
func stands(d *flash.Device, first, size, tail int) [][]api.Image {
	read := func(seq int) (record.Log, bool) {
		b, e := d.Read(first + seq%size)
		if e != api.OK {
			return record.Log{}, false
		}
		r, e := record.DecodeLog(b)
		return r, e == api.OK
	}
	var all [][]api.Image
	tx, epoch := tail, 0
next:
	for n := 0; tx+n+1-tail <= size; n++ {
		head, ok := read(tx)
		if !ok || head.Epoch < epoch {
			break
		}
		var l []api.Image
		for i := range n {
			r, _ := read(tx + i)
			l = append(l, api.Image{Page: r.Page, Data: r.Data})
		}
		for i, want := range records(head.Epoch, tx, l) {
			if r, ok := read(tx + i); !ok || r != want {
				continue next
			}
		}
		all = append(all, l)
		tx, epoch, n = tx+n+1, head.Epoch, -1
	}
	return all
}

// kept is a log with all that it was told.
type kept struct {
	d           *flash.Device
	l           *wal.Log
	first, size int
	tail, epoch int
	all         [][]api.Image // what was appended from the tail on
	flushed     int           // so many of them last
	page        int
}

func (k *kept) next() int {
	n := k.tail
	for _, tx := range k.all {
		n += len(tx) + 1
	}
	return n
}

func (k *kept) flush() api.Errno {
	e := k.d.Flush()
	if e == api.OK {
		k.flushed = len(k.all)
	}
	return e
}

// append appends a transaction of n images, and asks for the answer by what has room.
func (k *kept) append(t *testing.T, n int) {
	t.Helper()
	var l []api.Image
	for range n {
		k.page++
		l = append(l, images(k.page, 1)...)
	}
	e := k.l.Append(l)
	switch {
	case n+1 > k.size:
		told(t, "Append", e, api.ErrBig)
	case n+1 > k.size-(k.next()-k.tail):
		told(t, "Append", e, api.ErrSpace)
	case e == api.OK:
		k.all = append(k.all, l)
	default:
		told(t, "Append", e, api.ErrDown)
	}
	counts(t, k.l, k.tail, k.next(), k.size)
}

// crash crashes and opens anew; what stands there must be the first of what was appended, all that was flushed among them.
func (k *kept) crash(t *testing.T, picks []int) {
	t.Helper()
	k.d.Crash(picks)
	k.epoch++
	l, got, e := wal.Open(k.d, k.first, k.size, k.tail, k.epoch)
	told(t, "Open", e, api.OK)
	if len(got) < k.flushed || len(got) > len(k.all) || !slices.EqualFunc(got, k.all[:len(got)], slices.Equal[[]api.Image]) {
		t.Errorf("%v stand there; of %v %d last", got, k.all, k.flushed)
		return
	}
	k.all = k.all[:len(got)]
	k.l, k.flushed = l, len(got)
	counts(t, l, k.tail, k.next(), k.size)
}

// trim moves the tail behind some of the transactions.
func (k *kept) trim(t *testing.T, count int) {
	t.Helper()
	to := k.tail
	for _, tx := range k.all[:count] {
		to += len(tx) + 1
	}
	told(t, "Trim", k.l.Trim(to), api.OK)
	k.tail, k.all, k.flushed = to, k.all[count:], k.flushed-count
	counts(t, k.l, k.tail, k.next(), k.size)
}

func begin(t *testing.T, r *dice) *kept {
	t.Helper()
	k := &kept{d: device(t, 16), first: r.below(4), size: 2 + r.below(11), tail: r.below(40), epoch: 1 + r.below(3)}
	k.l = opened(t, k.d, k.first, k.size, k.tail, k.epoch)
	return k
}

// One tail: appends, flushes and losses of power in any order.
func TestOneTail(t *testing.T) {
	most := 0
	for seed := range 600 {
		r := dice(seed)
		k := begin(t, &r)
		for i := range 60 {
			switch r.below(9) {
			case 0, 1, 2, 3:
				k.append(t, r.below(min(k.size, 5)+1))
			case 4:
				k.flush()
			case 5:
				k.d.Arm(r.below(6))
			case 6:
				if r.below(4) == 0 {
					k.crash(t, r.picks())
				}
			case 7:
				k.crash(t, nil)
			case 8:
				k.crash(t, r.picks())
			}
			most = max(most, len(k.all)-k.flushed)
			if t.Failed() {
				t.Fatal("seed", seed, "step", i)
			}
		}
	}
	if most < 3 {
		t.Errorf("at most %d transactions waited at one time", most)
	}
}

// A tail that moves: each transaction is flushed ahead of the next one.
func TestMovingTail(t *testing.T) {
	rounds := 0
	for seed := range 600 {
		r := dice(seed)
		k := begin(t, &r)
		from := k.tail
		for i := range 120 {
			switch r.below(6) {
			case 0, 1, 2:
				if k.flush() == api.OK {
					k.append(t, r.below(k.size))
				}
			case 3:
				if k.flush() == api.OK {
					k.trim(t, r.below(len(k.all)+1))
				}
			case 4:
				k.d.Arm(r.below(8))
			case 5:
				k.crash(t, r.picks())
			}
			if t.Failed() {
				t.Fatal("seed", seed, "step", i)
			}
		}
		rounds = max(rounds, (k.tail-from)/k.size)
	}
	if rounds < 3 {
		t.Errorf("the ring was gone round only %d times", rounds)
	}
}

// What stands in sectors of any records, in and out of form, is as the plain reading says.
func TestAnySectors(t *testing.T) {
	found := 0
	for seed := range 3000 {
		r := dice(seed)
		first, size, tail := r.below(3), 2+r.below(8), r.below(12)
		d := device(t, first+size+r.below(2))
		epoch := 1
		for seq := tail; seq < tail+size; {
			n := r.below(4)
			if r.below(4) > 0 {
				n = min(n, tail+size-seq-1)
			}
			l := images(r.below(30), n)
			epoch = max(epoch+r.below(6)-1-r.below(3), 0)
			for _, w := range records(epoch, seq, l) {
				switch r.below(60) {
				case 0:
					w.Seq += size
				case 1:
					w.Epoch++
				case 2:
					w.Count++
				case 3:
					w.Index++
				case 4:
					w.Tx++
				case 5:
					w = record.Log{Kind: 2, Epoch: w.Epoch, Seq: w.Seq, Tx: w.Tx, Index: w.Index, Count: w.Index}
				}
				b, e := record.EncodeLog(w)
				told(t, "EncodeLog", e, api.OK)
				told(t, "Write", d.Write(first+seq%size, b), api.OK)
				seq++
			}
		}
		if r.below(2) == 0 {
			picks := slices.Repeat([]int{1}, 20)
			picks[r.below(20)] = r.below(3)
			d.Crash(picks)
		}
		want := stands(d, first, size, tail)
		found += len(want)
		opened(t, d, first, size, tail, r.below(5), want...)
		if t.Failed() {
			t.Fatal("seed", seed)
		}
	}
	if found < 3000 {
		t.Errorf("only %d transactions stood", found)
	}
}
