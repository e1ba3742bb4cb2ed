package files_test

import (
	"maps"
	"slices"
	"testing"

	"cistern/api"
	"cistern/chunk"
	"cistern/files"
)

// dice tells numbers below n, the same ones in each run.
type dice uint64

func (r *dice) below(n int) int {
	*r = *r*6364136223846793005 + 1442695040888963407
	return int(uint64(*r)>>33) % n
}

// content is a file in memory: its bytes, and noughts beyond its size.
type content struct {
	size  int
	bytes [8192]byte
}

// play is files, and the same in memory.
type play struct {
	*house
	dice     dice
	files    map[int]content
	num      int               // the last blob's number
	truth    map[string]string // by a blob's name what it is to hold
	store    map[string]string // and what it holds
	outcomes []int             // how the next calls to the store go
	answers  map[api.Errno]int
	down     bool // the power goes off in a call, now and then
	left     int  // how often what was fetched found no block
	calls    int  // how often the store is asked by them
}

// inos are the files there are.
var inos = [...]int{2, 4, 5}

func players(t *testing.T, d dice, pages, blocks int, answers map[api.Errno]int) *play {
	t.Helper()
	p := &play{house: built(t, pages, blocks), dice: d, files: map[int]content{}, truth: map[string]string{}, store: map[string]string{}, answers: answers}
	p.made("/g", file, 4)
	p.made("/d/h", file, 5)
	for _, ino := range inos {
		p.files[ino] = content{}
	}
	return p
}

// states are those of all chunks, by their places.
func (p *play) states() map[[2]int]chunk.Extent {
	p.t.Helper()
	l := map[[2]int]chunk.Extent{}
	for _, x := range p.listed() {
		l[[2]int{x.Ino, x.Index}] = x
	}
	return l
}

// fetches tells how fetching those goes that are away of these chunks: which ones come, and the first error.
func (p *play) fetches(l map[[2]int]chunk.Extent, ino int, indexes []int) ([]int, api.Errno) {
	var come []int
	for _, i := range indexes {
		x, there := l[[2]int{ino, i}]
		if !there || x.State != absent {
			continue
		}
		p.calls++
		outcome := 0
		if len(p.outcomes) > 0 {
			outcome = p.outcomes[0]
			p.outcomes = p.outcomes[1:]
		}
		name := files.Blob(x.Epoch, x.Num)
		b, there := p.store[name]
		switch {
		case outcome > 0 || !there:
			return come, api.ErrRemote
		case b != p.truth[name]:
			return come, api.ErrSum
		}
		come = append(come, i)
	}
	return come, api.OK
}

// span: the chunks in which the bytes stand from one on, below another.
func span(from, to int) []int {
	var l []int
	for i := from / 256; 256*i < to && from < to; i++ {
		l = append(l, i)
	}
	return l
}

// partly: those of the chunks of which something stays that stands below the size, when the bytes are written from one on.
func partly(size, from, to int) []int {
	return slices.DeleteFunc(span(from, to), func(i int) bool {
		for at := 256 * i; at < min(256*(i+1), size); at++ {
			if at < from || at >= to {
				return false
			}
		}
		return true
	})
}

// wanted is what a call is to answer, and which chunks it fetches and writes.
type wanted struct {
	e          api.Errno
	come       []int
	written    []int
	file       content
	text       string
	onlyFetchs bool
}

// where is a place in a file, often at the edges of chunks.
func (p *play) where(size int) int {
	switch p.dice.below(6) {
	case 0:
		return size + p.dice.below(3) - 1
	case 1:
		return 256*p.dice.below(33) + p.dice.below(3) - 1
	case 2:
		return p.dice.below(8300)
	}
	return p.dice.below(size + 300)
}

// many is a count of bytes.
func (p *play) many() int {
	switch p.dice.below(5) {
	case 0:
		return 256*p.dice.below(5) + p.dice.below(3) - 1
	case 1:
		return p.dice.below(1024)
	}
	return p.dice.below(300)
}

// ino is a file's number, mostly.
func (p *play) ino() int {
	if p.dice.below(30) == 0 {
		return []int{0, -1, 1, 3, 6, 1<<32 + 2}[p.dice.below(6)]
	}
	return inos[p.dice.below(len(inos))]
}

// known: what a call with this number answers ahead of fetching.
func (p *play) known(ino int) api.Errno {
	if ino == 1 || ino == 3 {
		return api.ErrDir
	}
	if _, there := p.files[ino]; !there {
		return api.ErrMiss
	}
	return api.OK
}

func (p *play) read(l map[[2]int]chunk.Extent, ino, off, n int) wanted {
	x := p.files[ino]
	switch {
	case off < 0 || n < 0:
		return wanted{e: api.ErrArg}
	case n > 1024:
		return wanted{e: api.ErrBig}
	case p.known(ino) != api.OK:
		return wanted{e: p.known(ino)}
	}
	from, to := min(off, x.size), min(off+n, x.size)
	come, e := p.fetches(l, ino, span(from, to))
	w := wanted{e: e, come: come, file: x, onlyFetchs: true}
	if e == api.OK {
		w.text = string(x.bytes[from:to])
	}
	return w
}

func (p *play) write(l map[[2]int]chunk.Extent, ino, off int, b []byte) wanted {
	x := p.files[ino]
	switch {
	case off < 0:
		return wanted{e: api.ErrArg}
	case len(b) > 1024 || off+len(b) > 8192:
		return wanted{e: api.ErrBig}
	case p.known(ino) != api.OK:
		return wanted{e: p.known(ino)}
	case len(b) == 0:
		return wanted{file: x}
	}
	come, e := p.fetches(l, ino, partly(x.size, off, off+len(b)))
	copy(x.bytes[off:], b)
	x.size = max(x.size, off+len(b))
	return wanted{e: e, come: come, written: span(off, off+len(b)), file: x}
}

func (p *play) truncate(l map[[2]int]chunk.Extent, ino, size int) wanted {
	x := p.files[ino]
	switch {
	case size < 0:
		return wanted{e: api.ErrArg}
	case size > 8192:
		return wanted{e: api.ErrBig}
	case p.known(ino) != api.OK:
		return wanted{e: p.known(ino)}
	}
	w := wanted{file: x}
	last := size / 256
	if _, there := l[[2]int{ino, last}]; size < x.size && size%256 != 0 && there {
		w.come, w.e = p.fetches(l, ino, []int{last})
		w.written = []int{last}
	}
	clear(w.file.bytes[size:])
	w.file.size = size
	return w
}

// act is a call: its file, what it is to answer, and what it answers.
func (p *play) act(l map[[2]int]chunk.Extent) (int, wanted, func() (string, api.Errno)) {
	ino := p.ino()
	at := p.where(p.files[ino].size)
	switch k := p.dice.below(20); {
	case k < 6:
		n := p.many()
		if p.dice.below(3) == 0 {
			n = []int{1024, 1023, 1025}[p.dice.below(3)]
		}
		return ino, p.read(l, ino, at, n), func() (string, api.Errno) { b, e := p.f.Read(ino, at, n); return string(b), e }
	case k < 15:
		b := make([]byte, max(p.many(), 0))
		for i := range b {
			b[i] = byte(p.dice.below(256))
		}
		return ino, p.write(l, ino, at, b), func() (string, api.Errno) { return "", p.f.Write(ino, at, b) }
	}
	return ino, p.truncate(l, ino, at), func() (string, api.Errno) { return "", p.f.Truncate(ino, at) }
}

// step does one thing and compares all that becomes of it.
func (p *play) step() {
	p.t.Helper()
	before, free, room, bound := p.states(), p.c.Free(), p.r.Room(), 8*(p.r.Depth()+4)
	calls := p.s.Calls() - p.calls
	ino, want, do := p.act(before)
	if p.down {
		p.d.Arm(p.dice.below(3))
	}
	text, e := do()
	p.answers[e]++
	switch {
	case p.down && e == api.ErrDown:
		want.e, want.text = e, ""
		// It may have been ahead of other calls to the store.
		p.calls = p.s.Calls() - calls
	case e == api.ErrSpace && want.e == api.OK && len(want.written) > 0:
		if free >= len(want.written)+len(want.come) && room >= bound {
			p.t.Errorf("no room for %d chunks with %d fetched, but %d blocks and %d pages are free", len(want.written), len(want.come), free, room)
		}
		want.e = e
	case e == api.OK && want.e == api.OK:
		p.files[ino] = want.file
	}
	if text != want.text || e != want.e {
		p.t.Errorf("%.20q, %d, not %.20q, %d", text, e, want.text, want.e)
	}
	if p.down {
		p.d.Crash(slices.Repeat([]int{1}, 1000))
	}
	if n := p.s.Calls() - p.calls; n != calls {
		p.t.Errorf("the store was asked %d times too often", n-calls)
	}
	p.moved(ino, want, before, free)
}

// moved: what has become of the chunks? Who has only fetched has filled the blocks that were free.
func (p *play) moved(ino int, want wanted, before map[[2]int]chunk.Extent, free int) {
	p.t.Helper()
	after := p.states()
	if want.onlyFetchs && want.e != api.ErrDown {
		p.left += max(len(want.come)-free, 0)
		for _, i := range want.come[:min(len(want.come), free)] {
			x := before[[2]int{ino, i}]
			x.State = clean
			before[[2]int{ino, i}] = x
		}
		if !maps.Equal(after, before) || p.c.Free() != free-min(len(want.come), free) {
			p.t.Errorf("%d chunks were to come into %d blocks", len(want.come), free)
		}
		return
	}
	if want.e != api.OK {
		for at, x := range after {
			old := before[at]
			if x.State == clean && old.State == absent && at[0] == ino && slices.Contains(want.come, at[1]) || want.e == api.ErrDown && old.State == absent {
				old.State = x.State
			}
			if x != old || len(after) != len(before) {
				p.t.Errorf("chunk %v is %v beside %d, not %v", at, x, want.e, old)
			}
		}
		return
	}
	for _, i := range want.written {
		if after[[2]int{ino, i}].State != dirty {
			p.t.Errorf("chunk %d wasn't written", i)
		}
	}
	for at, old := range before {
		x, there := after[at]
		if at[0] == ino && slices.Contains(want.written, at[1]) || at[0] == ino && !there && at[1] >= (want.file.size+255)/256 {
			continue
		}
		if x != old {
			p.t.Errorf("chunk %v is %v, not %v", at, x, old)
		}
	}
}

// right compares all bytes, and sizes, without asking the store.
func (p *play) right() {
	p.t.Helper()
	l := p.states()
	for at := range l {
		if _, there := p.files[at[0]]; !there {
			p.t.Errorf("chunk %v is of no file", at)
		}
	}
	for _, ino := range inos {
		want := p.files[ino]
		p.sized(ino, want.size)
		got := ""
		for i := range 32 {
			x, there := l[[2]int{ino, i}]
			switch {
			case !there:
				got += noughts(256)
			case x.State == absent:
				got += p.truth[files.Blob(x.Epoch, x.Num)]
			default:
				b, e := p.c.Read(ino, i)
				told(p.t, "chunk.Read", e, api.OK)
				got += b
			}
			if there && 256*i >= want.size {
				p.t.Errorf("chunk %d of %d lies beyond the size", i, ino)
			}
		}
		if got != string(want.bytes[:]) {
			p.t.Errorf("the bytes of %d are others", ino)
		}
	}
	told(p.t, "Check", p.r.Check(), api.OK)
}

// upload makes a dirty chunk clean, or a clean one absent.
func (p *play) upload() {
	p.t.Helper()
	l := p.listed()
	if len(l) == 0 {
		return
	}
	for range 1 + p.dice.below(12) {
		x := l[p.dice.below(len(l))]
		if x, _ = p.c.Get(x.Ino, x.Index); x.State == clean {
			told(p.t, "Evict", p.c.Evict(x.Ino, x.Index), api.OK)
		} else if x.State == dirty && len(p.outcomes) == 0 {
			b, e := p.c.Read(x.Ino, x.Index)
			told(p.t, "chunk.Read", e, api.OK)
			p.num++
			epoch := p.dice.below(5)
			name := files.Blob(epoch, p.num)
			told(p.t, "Put", p.s.Put(name, []byte(b)), api.OK)
			told(p.t, "Clean", p.c.Clean(x.Ino, x.Index, epoch, p.num), api.OK)
			p.truth[name], p.store[name] = b, b
		}
	}
}

// trouble makes the store fail, or lose or alter a blob, or mends that.
func (p *play) trouble() {
	p.t.Helper()
	if len(p.outcomes) > 0 {
		return
	}
	names := slices.Sorted(maps.Keys(p.truth))
	if len(names) == 0 {
		return
	}
	name := names[p.dice.below(len(names))]
	switch p.dice.below(6) {
	case 0:
		for range 1 + p.dice.below(4) {
			p.outcomes = append(p.outcomes, p.dice.below(3))
		}
		p.s.Script(p.outcomes)
	case 1:
		told(p.t, "Delete", p.s.Delete(name), api.OK)
		delete(p.store, name)
	case 2, 3:
		b := p.truth[name]
		b = []string{b[1:], b + "x", "", string([]byte{b[0] ^ 1}) + b[1:]}[p.dice.below(4)]
		told(p.t, "Put", p.s.Put(name, []byte(b)), api.OK)
		p.store[name] = b
	default:
		for _, name := range names {
			if p.store[name] != p.truth[name] {
				told(p.t, "Put", p.s.Put(name, []byte(p.truth[name])), api.OK)
				p.store[name] = p.truth[name]
			}
		}
	}
}

func met(t *testing.T, answers map[api.Errno]int, least int, errors ...api.Errno) {
	t.Helper()
	for _, e := range errors {
		if answers[e] < least {
			t.Errorf("error %d was met %d times", e, answers[e])
		}
	}
}

// Everything in any order: files are as they are in memory, whatever is dirty, clean, absent or fetched again.
func TestAnyOrder(t *testing.T) {
	t.Parallel()
	answers, left := map[api.Errno]int{}, 0
	for seed := range 100 {
		d := dice(seed)
		p := players(t, d, 150, 3+d.below(20), answers)
		for i := range 250 {
			switch k := p.dice.below(20); {
			case k < 4:
				p.upload()
			case k < 6:
				p.trouble()
			case k < 7 || p.c.Free() < p.dice.below(3):
				p.c.Settle()
			case k == 7 && p.dice.below(4) == 0:
				told(t, "Commit", p.p.Commit(), api.OK)
				p.c.Settle()
				p.mount()
			case k == 8 && p.dice.below(4) == 0:
				ino := inos[p.dice.below(len(inos))]
				told(t, "Truncate", p.f.Truncate(ino, 0), api.OK)
				told(t, "Remove", p.f.Remove(ino), api.OK)
				p.files[ino] = content{}
			default:
				p.step()
			}
			if i%10 == 0 {
				p.right()
			}
			if t.Failed() {
				t.Fatal("seed", seed, "step", i)
			}
		}
		left += p.left
	}
	met(t, answers, 50, api.OK, api.ErrArg, api.ErrBig, api.ErrMiss, api.ErrDir, api.ErrRemote, api.ErrSum, api.ErrSpace)
	if left < 25 {
		t.Errorf("%d chunks that were fetched found no block", left)
	}
}

// In trees that are full, or nearly: what has no room changes nothing.
func TestNoRoom(t *testing.T) {
	t.Parallel()
	answers, full := map[api.Errno]int{}, 0
	for seed := range 100 {
		d := dice(seed)
		p := players(t, d, 15+d.below(50), 100, answers)
		for room := d.below(25); p.r.Room() > room; {
			if e := p.r.Put("b"+string(rune(256+d.below(1<<15)))+fill('k', d.below(28)), fill('v', d.below(api.MaxVal+1))); e != api.OK {
				break
			}
		}
		for i := range 60 {
			if d.below(4) == 0 {
				p.upload()
			}
			p.c.Settle()
			before, free := answers[api.ErrSpace], p.c.Free()
			if p.step(); free > 7 {
				full += answers[api.ErrSpace] - before
			}
			if i%10 == 0 {
				p.right()
			}
			if t.Failed() {
				t.Fatal("seed", seed, "step", i)
			}
		}
	}
	met(t, answers, 100, api.OK, api.ErrSpace)
	if full < 100 {
		t.Errorf("%d times there were blocks, but no pages", full)
	}
}

// The power goes off at a write: a call does all of it, or nothing.
func TestPowerOff(t *testing.T) {
	t.Parallel()
	answers := map[api.Errno]int{}
	for seed := range 60 {
		d := dice(seed)
		p := players(t, d, 120, 5+d.below(60), answers)
		for i := range 120 {
			if p.dice.below(4) == 0 {
				p.upload()
			}
			if p.dice.below(8) == 0 {
				told(t, "Commit", p.p.Commit(), api.OK)
				p.c.Settle()
			}
			p.down = p.dice.below(2) == 0
			p.step()
			p.down = false
			if i%10 == 0 {
				p.right()
			}
			if t.Failed() {
				t.Fatal("seed", seed, "step", i)
			}
		}
	}
	met(t, answers, 100, api.OK, api.ErrDown)
}

// Behind a loss of power the files are those of the last commit, whatever was written, fetched and cut since.
func TestCrashes(t *testing.T) {
	t.Parallel()
	answers, lost := map[api.Errno]int{}, 0
	for seed := range 60 {
		d := dice(seed)
		p := players(t, d, 120, 10+d.below(60), answers)
		for range 8 {
			for range 10 {
				p.step()
				p.upload()
			}
			told(t, "Commit", p.p.Commit(), api.OK)
			p.c.Settle()
			last := maps.Clone(p.files)
			for range p.dice.below(20) {
				p.step()
				p.upload()
			}
			if !maps.Equal(last, p.files) {
				lost++
			}
			var picks []int
			for range p.dice.below(80) {
				picks = append(picks, p.dice.below(3))
			}
			p.d.Crash(picks)
			p.mount()
			p.files = last
			p.right()
			if t.Failed() {
				t.Fatal("seed", seed)
			}
		}
	}
	if lost < 200 {
		t.Errorf("only %d times was something lost", lost)
	}
}
