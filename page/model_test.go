package page_test

import (
	"maps"
	"slices"
	"testing"

	"cistern/api"
	"cistern/flash"
	"cistern/page"
	"cistern/record"
)

// dice tells numbers below n, the same ones in each run.
type dice uint64

func (r *dice) below(n int) int {
	*r = *r*6364136223846793005 + 1442695040888963407
	return int(uint64(*r)>>33) % n
}

func (r *dice) picks() []int {
	var l []int
	for range r.below(14) {
		l = append(l, r.below(3))
	}
	return l
}

func (r *dice) text() string {
	b := make([]byte, r.below(4))
	if r.below(20) == 0 {
		b = make([]byte, 150+r.below(12))
	}
	for i := range b {
		b[i] = byte(r.below(256))
	}
	return string(b)
}

// twin does plainly, on a device of its own, what the document says that a store does: each record by its own numbers.
type twin struct {
	t          *testing.T
	d          *flash.Device
	log, pages int
	gen, epoch int
	tail, next int
	logged     map[int]string
	waiting    map[int]string
}

// write writes a sector; down says that the power is off.
func (w *twin) write(at int, b []byte, e api.Errno) (down bool) {
	w.t.Helper()
	told(w.t, "encoding", e, api.OK)
	return w.d.Write(at, b) == api.ErrDown
}

func (w *twin) writeSuper() (down bool) {
	b, e := record.EncodeSuper(record.Super{Gen: w.gen + 1, Epoch: w.epoch, Tail: w.next})
	if w.write((w.gen+1)%2, b, e) {
		return true
	}
	return w.d.Flush() == api.ErrDown
}

func (w *twin) checkpoint() api.Errno {
	if len(w.logged) == 0 {
		return api.OK
	}
	for p := range w.pages {
		if data, ok := w.logged[p]; ok {
			b, e := record.EncodeHome(record.Home{Page: p, Data: data})
			if w.write(2+w.log+p, b, e) {
				return api.ErrDown
			}
		}
	}
	if w.d.Flush() == api.ErrDown || w.writeSuper() {
		return api.ErrDown
	}
	w.gen, w.tail, w.logged = w.gen+1, w.next, map[int]string{}
	return api.OK
}

func (w *twin) commit() api.Errno {
	n := len(w.waiting)
	if n == 0 {
		return w.d.Flush()
	}
	if n+1 > w.log {
		return api.ErrSpace
	}
	if w.d.Flush() == api.ErrDown {
		return api.ErrDown
	}
	if w.next+n+1-w.tail > w.log {
		if e := w.checkpoint(); e != api.OK {
			return e
		}
	}
	i := 0
	for p := range w.pages {
		if data, ok := w.waiting[p]; ok {
			b, e := record.EncodeLog(record.Log{Kind: 1, Epoch: w.epoch, Seq: w.next + i, Tx: w.next, Index: i, Count: n, Page: p, Data: data})
			if w.write(2+(w.next+i)%w.log, b, e) {
				return api.ErrDown
			}
			i++
		}
	}
	b, e := record.EncodeLog(record.Log{Kind: 2, Epoch: w.epoch, Seq: w.next + n, Tx: w.next, Index: n, Count: n})
	if w.write(2+(w.next+n)%w.log, b, e) || w.d.Flush() == api.ErrDown {
		return api.ErrDown
	}
	w.next += n + 1
	maps.Copy(w.logged, w.waiting)
	w.waiting = map[int]string{}
	return api.OK
}

// mount asks the real store's device nothing: what stands in the log it reads record by record.
func (w *twin) mount() api.Errno {
	var best record.Super
	found := false
	for at := 1; at >= 0; at-- {
		b, e := w.d.Read(at)
		if e == api.ErrDown {
			return e
		}
		if s, e := record.DecodeSuper(b); e == api.OK && (!found || s.Gen >= best.Gen) {
			best, found = s, true
		}
	}
	if !found {
		return api.ErrForm
	}
	w.logged, w.waiting = map[int]string{}, map[int]string{}
	w.tail, w.next = best.Tail, best.Tail
	for w.transaction() {
	}
	b, e := record.EncodeSuper(record.Super{Gen: best.Gen + 1, Epoch: best.Epoch + 1, Tail: best.Tail})
	if w.write((best.Gen+1)%2, b, e) || w.d.Flush() == api.ErrDown {
		return api.ErrDown
	}
	w.gen, w.epoch = best.Gen+1, best.Epoch+1
	return api.OK
}

// transaction takes the transaction that stands at next, if it stands there whole: all of one epoch, so that nothing of it
// is left over from before a crash.
func (w *twin) transaction() bool {
	found := map[int]string{}
	epoch := 0
	for i := 0; w.next+i < w.tail+w.log; i++ {
		b, _ := w.d.Read(2 + (w.next+i)%w.log)
		r, e := record.DecodeLog(b)
		if i == 0 {
			epoch = r.Epoch
		}
		if e != api.OK || r.Seq != w.next+i || r.Tx != w.next || r.Index != i || r.Epoch != epoch {
			return false
		}
		if r.Kind == 2 {
			maps.Copy(w.logged, found)
			w.next += i + 1
			return true
		}
		found[r.Page] = r.Data
	}
	return false
}

// get tells what the plain store holds.
func (w *twin) get(p int) string {
	if s, ok := w.waiting[p]; ok {
		return s
	}
	if s, ok := w.logged[p]; ok {
		return s
	}
	b, _ := w.d.Read(2 + w.log + p)
	h, _ := record.DecodeHome(b)
	return h.Data
}

// alike asks for the same device, and the same pages if the power is on.
func (w *twin) alike(d *flash.Device, s *page.Store) {
	w.t.Helper()
	if d.Pending() != w.d.Pending() || !slices.Equal(sectors(d), sectors(w.d)) {
		w.t.Errorf("the devices aren't alike: %d and %d wait", d.Pending(), w.d.Pending())
	}
	if s == nil {
		return
	}
	dirty(w.t, s, len(w.waiting))
	if s.Epoch() != w.epoch {
		w.t.Errorf("Epoch: %d, not %d", s.Epoch(), w.epoch)
	}
	if _, e := d.Read(0); e == api.OK {
		for p := range w.pages {
			if got, e := s.Get(p); got != w.get(p) || e != api.OK {
				w.t.Errorf("Get(%d): %q, %d, not %q", p, got, e, w.get(p))
			}
		}
	}
}

// The device's sectors, and what waits on it, are what the document makes of them: all calls in any order, the power
// going off at any write and any flush, and the device made anew by mounting.
func TestSectors(t *testing.T) {
	checkpoints, cuts := 0, 0
	for seed := range 500 {
		r := dice(seed)
		log, pages := 4+r.below(8), 1+r.below(7)
		size := 2 + log + pages + r.below(3)
		d := device(t, size)
		w := &twin{t: t, d: device(t, size), log: log, pages: pages}
		told(t, "Format", page.Format(d, log, pages), api.OK)
		b, e := record.EncodeSuper(record.Super{Gen: 1})
		lay(t, w.d, 1, b, e)
		s := mounted(t, d, log, pages)
		told(t, "plain mount", w.mount(), api.OK)
		type mark struct {
			m    *page.Mark
			want map[int]string
			ok   bool
		}
		var marks []mark
		for i := range 100 {
			switch r.below(13) {
			case 0, 1, 2, 3:
				p, data := r.below(pages+2)-1, r.text()
				switch {
				case p < 0 || p >= pages:
					told(t, "Put", s.Put(p, data), api.ErrArg)
				case len(data) > api.MaxPage:
					told(t, "Put", s.Put(p, data), api.ErrBig)
				default:
					told(t, "Put", s.Put(p, data), api.OK)
					w.waiting[p] = data
				}
			case 4, 5, 6:
				waited := len(w.waiting)
				want := w.commit()
				told(t, "Commit", s.Commit(), want)
				if want == api.OK && waited > 0 {
					for j := range marks {
						marks[j].ok = false
					}
				}
			case 7:
				want := w.checkpoint()
				told(t, "Checkpoint", s.Checkpoint(), want)
				checkpoints++
			case 8:
				marks = append(marks, mark{s.Mark(), maps.Clone(w.waiting), true})
			case 9:
				if len(marks) > 0 {
					m := marks[r.below(len(marks))]
					if m.ok {
						told(t, "Back", s.Back(m.m), api.OK)
						w.waiting = maps.Clone(m.want)
					} else {
						told(t, "Back", s.Back(m.m), api.ErrArg)
					}
				}
			case 10:
				n := r.below(10)
				d.Arm(n)
				w.d.Arm(n)
			case 11, 12:
				if _, e := d.Read(0); e == api.OK && r.below(3) > 0 {
					break
				}
				cuts++
				picks := r.picks()
				d.Crash(picks)
				w.d.Crash(picks)
				for j := range marks {
					marks[j].ok = false
				}
				n := r.below(5) - 2
				d.Arm(n)
				w.d.Arm(n)
				next, e := page.Mount(d, log, pages)
				told(t, "Mount", e, w.mount())
				if e != api.OK {
					w.alike(d, nil)
					picks = r.picks()
					d.Crash(picks)
					w.d.Crash(picks)
					next, e = page.Mount(d, log, pages)
					told(t, "Mount", e, api.OK)
					told(t, "plain mount", w.mount(), api.OK)
				}
				s = next
			}
			w.alike(d, s)
			if t.Failed() {
				t.Fatal("seed", seed, "step", i)
			}
		}
	}
	if checkpoints < 1000 || cuts < 1000 {
		t.Errorf("only %d checkpoints and %d cuts", checkpoints, cuts)
	}
}
