package upload_test

import (
	"math"
	"strconv"
	"strings"
	"testing"

	"cistern/api"
	"cistern/backoff"
	"cistern/blob"
	"cistern/chunk"
	"cistern/files"
	"cistern/flash"
	"cistern/page"
	"cistern/tree"
	"cistern/upload"
)

const (
	dirty = 1
	clean = 2
)

// What Step tells.
const (
	nothingWaits = 0
	wentAway     = 1
	noneDue      = 2
)

// How a call to the store goes.
const (
	answered = 0
	failed   = 1
	unheard  = 2
)

// The greatest tick, and the greatest epoch.
const (
	mostNow   = 1 << 40
	mostEpoch = 1<<31 - 1
)

// doubling is what most tests wait by: 5, 10, 20, 40, 80, 100, 100, ..
func doubling() backoff.Setting {
	return backoff.Setting{Base: 5, Factor: 2, Cap: 100}
}

func told(t *testing.T, what string, got, want api.Errno) {
	t.Helper()
	if got != want {
		t.Errorf("%s: %d, not %d", what, got, want)
	}
}

// fill is a chunk of one byte.
func fill(c byte) string {
	return strings.Repeat(string([]byte{c}), api.Chunk)
}

// pier is all that an uploader stands on.
type pier struct {
	t             *testing.T
	d             *flash.Device
	p             *page.Store
	r             *tree.Tree
	c             *chunk.Chunks
	s             *blob.Store
	u             *upload.Uploader
	pages, blocks int
}

// built is an uploader of the epoch 3, of chunks in so many blocks.
func built(t *testing.T, pages, blocks int, set backoff.Setting) *pier {
	t.Helper()
	y := &pier{t: t, pages: pages, blocks: blocks, s: blob.New()}
	y.d, _ = flash.New(3 + 2*pages + blocks)
	if e := page.Format(y.d, pages+1, pages); e != api.OK {
		t.Fatal("Format", e)
	}
	y.mount()
	y.opens(set)
	return y
}

// mount opens what lasts on the device.
func (y *pier) mount() {
	y.t.Helper()
	var e [3]api.Errno
	y.p, e[0] = page.Mount(y.d, y.pages+1, y.pages)
	y.r, e[1] = tree.Open(y.p)
	y.c, e[2] = chunk.New(y.r, y.d, y.first(), y.blocks)
	if e != ([3]api.Errno{}) {
		y.t.Fatal("mount", e)
	}
}

// first is the sector of block 0.
func (y *pier) first() int {
	return 3 + 2*y.pages
}

// opens makes a new uploader.
func (y *pier) opens(set backoff.Setting) {
	y.t.Helper()
	var e api.Errno
	if y.u, e = upload.New(y.c, y.s, set, 3); e != api.OK || y.u == nil {
		y.t.Fatal("New", e)
	}
}

func (y *pier) writes(ino, index int, c byte) {
	y.t.Helper()
	told(y.t, "Write", y.c.Write(ino, index, fill(c)), api.OK)
}

// steps asks what a Step answers.
func (y *pier) steps(now, want int, wanted api.Errno) {
	y.t.Helper()
	if k, e := y.u.Step(now); k != want || e != wanted {
		y.t.Errorf("Step(%d): %d, %d, not %d, %d", now, k, e, want, wanted)
	}
}

// pushes asks what a Push answers.
func (y *pier) pushes(now, most, want int, wanted api.Errno) {
	y.t.Helper()
	if k, e := y.u.Push(now, most); k != want || e != wanted {
		y.t.Errorf("Push(%d, %d): %d, %d, not %d, %d", now, most, k, e, want, wanted)
	}
}

// waits asks how many wait, and when the first of them is due.
func (y *pier) waits(want, due int) {
	y.t.Helper()
	if n := y.u.Waiting(); n != want {
		y.t.Errorf("Waiting: %d, not %d", n, want)
	}
	wanted := api.OK
	if want == 0 {
		wanted = api.ErrMiss
	}
	if k, e := y.u.Due(); k != due || e != wanted {
		y.t.Errorf("Due: %d, %d, not %d, %d", k, e, due, wanted)
	}
}

// away asks whether a chunk went away as the blob of a number of this uploader; 0: it is dirty.
func (y *pier) away(ino, index, num int, b byte) {
	y.t.Helper()
	want := chunk.Extent{Ino: ino, Index: index, State: clean, Epoch: 3, Num: num}
	if num == 0 {
		want.State, want.Epoch = dirty, 0
	}
	x, e := y.c.Get(ino, index)
	want.Sum = x.Sum
	if x != want || e != api.OK {
		y.t.Errorf("Get(%d, %d): %v, %d, not %v", ino, index, x, e, want)
	}
	if num > 0 {
		y.blob(num, b)
	}
	if got, e := y.c.Read(ino, index); got != fill(b) || e != api.OK {
		y.t.Errorf("Read(%d, %d): %.3q.., %d", ino, index, got, e)
	}
}

// blob asks for the bytes of the blob of a number.
func (y *pier) blob(num int, b byte) {
	y.t.Helper()
	if got, e := y.s.Get("c-3-" + strconv.Itoa(num)); string(got) != fill(b) || e != api.OK {
		y.t.Errorf("blob %d: %.3q.., %d", num, got, e)
	}
}

// stored asks how many blobs there are.
func (y *pier) stored(want int) {
	y.t.Helper()
	if l, e := y.s.List(); len(l) != want || e != api.OK {
		y.t.Errorf("%q, %d, not %d", l, e, want)
	}
}

// numbered asks which number is the next.
func (y *pier) numbered(want int) {
	y.t.Helper()
	if n := y.u.Number(); n != want {
		y.t.Errorf("Number: %d, not %d", n, want)
	}
}

func TestNew(t *testing.T) {
	y := built(t, 9, 2, doubling())
	for _, epoch := range []int{0, 1, mostEpoch} {
		if u, e := upload.New(y.c, y.s, backoff.Setting{}, epoch); u == nil || e != api.OK || u.Waiting() != 0 {
			t.Error(epoch, e)
		}
	}
	for _, x := range []struct {
		c     *chunk.Chunks
		s     *blob.Store
		epoch int
	}{{nil, y.s, 1}, {y.c, nil, 1}, {nil, nil, 1}, {y.c, y.s, -1}, {y.c, y.s, mostEpoch + 1}, {y.c, y.s, math.MinInt}, {y.c, y.s, math.MaxInt}} {
		if u, e := upload.New(x.c, x.s, doubling(), x.epoch); u != nil || e != api.ErrArg {
			t.Error(x.epoch, e)
		}
	}
	// The greatest epoch names blobs, and chunks take it.
	y.writes(2, 0, 'a')
	u, _ := upload.New(y.c, y.s, doubling(), mostEpoch)
	if k, e := u.Step(0); k != wentAway || e != api.OK {
		t.Error(k, e)
	}
	if x, e := y.c.Get(2, 0); x.Epoch != mostEpoch || x.Num != 1 || e != api.OK {
		t.Error(x, e)
	}
	if b, e := y.s.Get(files.Blob(mostEpoch, 1)); string(b) != fill('a') || e != api.OK {
		t.Error(len(b), e)
	}
}

func TestExample(t *testing.T) {
	y := built(t, 9, 4, doubling())
	y.writes(2, 0, 'a')
	y.writes(2, 1, 'b')
	y.waits(0, 0)
	y.steps(0, wentAway, api.OK)
	y.waits(1, 0)
	y.steps(0, wentAway, api.OK)
	y.waits(0, 0)
	y.steps(0, nothingWaits, api.OK)
	y.away(2, 0, 1, 'a')
	y.away(2, 1, 2, 'b')

	y = built(t, 9, 4, doubling())
	y.writes(2, 0, 'a')
	y.writes(2, 1, 'b')
	y.s.Script([]int{failed})
	y.steps(0, 0, api.ErrRemote)
	y.waits(2, 0)
	y.steps(0, wentAway, api.OK)
	y.waits(1, 5)
	y.steps(4, noneDue, api.OK)
	y.waits(1, 5)
	y.steps(5, wentAway, api.OK)
	y.away(2, 0, 3, 'a')
	y.away(2, 1, 2, 'b')
	y.stored(2)
	y.numbered(4)
}

// What fails is due later and later, up to the cap; each try has a number of its own; another chunk isn't kept back by it.
func TestFailures(t *testing.T) {
	y := built(t, 9, 4, doubling())
	y.writes(2, 0, 'a')
	now := 7
	for i, delay := range []int{5, 10, 20, 40, 80, 100, 100, 100} {
		y.s.Script([]int{failed})
		y.steps(now, 0, api.ErrRemote)
		y.waits(1, now+delay)
		y.steps(now+delay-1, noneDue, api.OK)
		now += delay
		if i == 3 {
			y.writes(4, 0, 'z')
			y.steps(now-2, wentAway, api.OK)
			y.away(4, 0, 5, 'z')
			y.waits(1, now)
		}
	}
	y.steps(now+1000, wentAway, api.OK)
	y.away(2, 0, 10, 'a')
	y.stored(2)
	y.waits(0, 0)
	// It begins anew: what it failed before counts no longer.
	y.writes(2, 0, 'b')
	y.s.Script([]int{failed})
	y.steps(0, 0, api.ErrRemote)
	y.waits(1, 5)
}

// A blob whose answer is lost is there, but the chunk stays dirty, and goes away by another number: no name is used twice.
func TestLostAnswers(t *testing.T) {
	y := built(t, 9, 4, doubling())
	y.writes(2, 0, 'a')
	y.s.Script([]int{unheard, unheard})
	y.steps(0, 0, api.ErrRemote)
	y.writes(2, 0, 'b')
	y.waits(1, 5)
	y.pushes(0, 1, 0, api.ErrRemote)
	y.waits(1, 10)
	y.away(2, 0, 0, 'b')
	y.writes(2, 0, 'c')
	y.pushes(1, 1, 1, api.OK)
	y.away(2, 0, 3, 'c')
	y.blob(1, 'a')
	y.blob(2, 'b')
	y.stored(3)
}

// Numbers that are taken by others aren't blobs' here.
func TestNumber(t *testing.T) {
	y := built(t, 9, 4, doubling())
	y.numbered(1)
	y.numbered(2)
	y.writes(2, 0, 'a')
	y.steps(0, wentAway, api.OK)
	y.away(2, 0, 3, 'a')
	y.steps(0, nothingWaits, api.OK)
	y.numbered(4)
	y.writes(2, 0, 'b')
	y.s.Script([]int{failed})
	y.steps(0, 0, api.ErrRemote)
	y.steps(0, noneDue, api.OK)
	y.numbered(6)
	y.stored(1)
}

// Who waits, and since when: in the order of the list, due at the tick at which one looked round.
func TestLookRound(t *testing.T) {
	y := built(t, 20, 9, doubling())
	y.writes(3, 0, 'c')
	y.writes(2, 1, 'b')
	y.waits(0, 0)
	y.pushes(10, 0, 0, api.OK)
	y.waits(2, 10)
	// What comes later is due later, though it stands ahead in the list.
	y.writes(2, 0, 'a')
	y.pushes(9, 0, 0, api.OK)
	y.waits(3, 9)
	y.steps(8, noneDue, api.OK)
	y.steps(9, wentAway, api.OK)
	y.away(2, 0, 1, 'a')
	y.waits(2, 10)
	y.steps(9, noneDue, api.OK)
	y.steps(10, wentAway, api.OK)
	y.away(2, 1, 2, 'b')
	// What isn't dirty any longer leaves: it is clean by others, or gone.
	y.writes(2, 0, 'd')
	y.writes(2, 1, 'e')
	y.writes(2, 2, 'f')
	y.pushes(11, 0, 0, api.OK)
	y.waits(4, 10)
	told(t, "Clean", y.c.Clean(3, 0, 1, 1), api.OK)
	told(t, "Evict", y.c.Evict(3, 0), api.OK)
	told(t, "Cut", y.c.Cut(2, 2), api.OK)
	y.waits(4, 10)
	y.pushes(0, 0, 0, api.OK)
	y.waits(2, 11)
	y.steps(10, noneDue, api.OK)
	y.steps(11, wentAway, api.OK)
	y.away(2, 0, 3, 'd')
	y.away(2, 1, 0, 'e')
	told(t, "Clean", y.c.Clean(2, 1, 1, 2), api.OK)
	y.steps(11, nothingWaits, api.OK)
	y.waits(0, 0)
	y.stored(3)
}

// A chunk that was written anew keeps its place, even if it was clean in between; not, if one looked round meanwhile.
func TestWrittenAnew(t *testing.T) {
	y := built(t, 20, 9, doubling())
	y.writes(2, 0, 'a')
	y.writes(2, 1, 'b')
	y.s.Script([]int{failed, failed})
	y.steps(0, 0, api.ErrRemote)
	y.steps(0, 0, api.ErrRemote)
	y.writes(2, 0, 'c')
	told(t, "Clean", y.c.Clean(2, 1, 1, 1), api.OK)
	y.writes(2, 1, 'd')
	y.steps(1, noneDue, api.OK)
	y.waits(2, 5)
	y.s.Script([]int{failed})
	y.steps(5, 0, api.ErrRemote)
	y.away(2, 0, 0, 'c')
	y.waits(2, 5)
	y.steps(5, wentAway, api.OK)
	y.away(2, 1, 4, 'd')
	y.waits(1, 15)
	told(t, "Clean", y.c.Clean(2, 0, 1, 1), api.OK)
	y.steps(6, nothingWaits, api.OK)
	y.writes(2, 0, 'e')
	y.s.Script([]int{failed})
	y.steps(7, 0, api.ErrRemote)
	y.waits(1, 12)
}

// Push tries whether due or not, so many, up to the first that fails.
func TestPush(t *testing.T) {
	y := built(t, 20, 20, doubling())
	for i := range 6 {
		y.writes(2, i, byte('a'+i))
	}
	y.s.Script([]int{failed})
	y.steps(100, 0, api.ErrRemote)
	y.waits(6, 100)
	y.pushes(0, 2, 2, api.OK)
	y.away(2, 1, 2, 'b')
	y.away(2, 2, 3, 'c')
	y.away(2, 0, 0, 'a')
	// The first two of those that are left go away, the third fails, the fourth isn't tried.
	y.s.Script([]int{answered, answered, failed})
	y.pushes(3, 9, 2, api.ErrRemote)
	y.away(2, 3, 4, 'd')
	y.away(2, 4, 5, 'e')
	y.waits(2, 8)
	y.numbered(7)
	y.stored(4)
	y.writes(2, 6, 'g')
	y.pushes(1<<40, 1<<40, 3, api.OK)
	y.away(2, 0, 9, 'a')
	y.away(2, 5, 8, 'f')
	y.away(2, 6, 10, 'g')
	y.pushes(0, math.MaxInt, 0, api.OK)
	y.waits(0, 0)
	y.stored(7)
}

// More dirty chunks than the queue takes wait for another time.
func TestFullQueue(t *testing.T) {
	y := built(t, 420, 1010, doubling())
	for i := range 1005 {
		y.writes(2+i/32, i%32, byte(i))
	}
	y.pushes(5, 0, 0, api.OK)
	y.waits(1000, 5)
	y.writes(1, 0, 'z')
	y.steps(4, noneDue, api.OK)
	y.waits(1000, 5)
	y.steps(6, wentAway, api.OK)
	y.away(2, 0, 1, 0)
	y.waits(999, 5)
	// The first of the list that isn't in it is pushed then, and only when there is a place.
	y.pushes(2, 0, 0, api.OK)
	y.waits(1000, 2)
	y.steps(2, wentAway, api.OK)
	y.away(1, 0, 2, 'z')
	y.pushes(7, 2000, 1000, api.OK)
	y.waits(0, 0)
	y.pushes(7, 2000, 4, api.OK)
	y.pushes(7, 2000, 0, api.OK)
	l, _ := y.c.List()
	for _, x := range l {
		if x.State != clean {
			t.Error(x)
		}
	}
	y.stored(1006)
}

// What all calls refuse; nothing is changed then, nor looked round.
func TestArguments(t *testing.T) {
	y := built(t, 9, 4, doubling())
	y.writes(2, 0, 'a')
	for _, now := range []int{-1, mostNow + 1, math.MinInt, math.MaxInt} {
		y.steps(now, 0, api.ErrArg)
		y.pushes(now, 1, 0, api.ErrArg)
	}
	for _, most := range []int{-1, math.MinInt} {
		y.pushes(0, most, 0, api.ErrArg)
		y.pushes(-1, most, 0, api.ErrArg)
	}
	y.waits(0, 0)
	y.stored(0)
	told(t, "Calls", api.Errno(y.s.Calls()), 1)
	y.numbered(1)
	y.pushes(mostNow, 0, 0, api.OK)
	y.waits(1, mostNow)
	y.s.Script([]int{failed})
	y.steps(mostNow, 0, api.ErrRemote)
	y.waits(1, mostNow+5)
	y.steps(mostNow, noneDue, api.OK)
	y.pushes(mostNow, 1, 1, api.OK)
	y.away(2, 0, 3, 'a')
}

// No uploader, or one that New didn't make.
func TestNone(t *testing.T) {
	for _, u := range []*upload.Uploader{nil, {}} {
		if n := u.Waiting() + u.Number() + u.Number(); n != 0 {
			t.Error(n)
		}
		if k, e := u.Due(); k != 0 || e != api.ErrArg {
			t.Error(k, e)
		}
		for _, now := range []int{-1, 0, 1} {
			if k, e := u.Step(now); k != 0 || e != api.ErrArg {
				t.Error(k, e)
			}
			if k, e := u.Push(now, 1); k != 0 || e != api.ErrArg {
				t.Error(k, e)
			}
		}
	}
	// Chunks that New didn't make are none: what they answer is told.
	u, e := upload.New(&chunk.Chunks{}, &blob.Store{}, doubling(), 0)
	told(t, "New", e, api.OK)
	if k, e := u.Step(0); k != 0 || e != api.ErrArg {
		t.Error(k, e)
	}
	if k, e := u.Push(0, 1); k != 0 || e != api.ErrArg {
		t.Error(k, e)
	}
}

// All delays of any setting: floating numbers at their edges.
func TestSettings(t *testing.T) {
	nan, most := math.NaN(), math.Inf(1)
	for _, set := range []backoff.Setting{
		{}, {Base: 1, Factor: 1, Cap: 1}, {Base: nan, Factor: 2, Cap: 7}, {Base: 1, Factor: most, Cap: 5}, {Base: -1, Factor: 2, Cap: 10},
		{Base: 3, Factor: 2, Cap: nan}, {Base: most, Factor: most, Cap: most}, {Base: 0.4, Factor: 1.7, Cap: 9.9}, {Base: 1, Factor: 2, Cap: math.Copysign(0, -1)},
	} {
		y := built(t, 9, 4, set)
		y.writes(2, 0, 'a')
		now := 1000
		for i := range 30 {
			y.s.Script([]int{failed})
			y.steps(now, 0, api.ErrRemote)
			due, e := backoff.Due(set, now, i+1)
			told(t, "Due", e, api.OK)
			y.waits(1, due)
			if due > now {
				y.steps(due-1, noneDue, api.OK)
			}
			now = due
		}
		y.steps(now, wentAway, api.OK)
		y.away(2, 0, 31, 'a')
	}
}

// What the chunks and the device answer is told, and no count beside it; what can't be read isn't put, and takes no number.
func TestBelow(t *testing.T) {
	y := built(t, 20, 9, doubling())
	for i := range 3 {
		y.writes(2, i, byte('a'+i))
	}
	told(t, "Flush", y.d.Flush(), api.OK)
	// Block 1 is torn: its chunk is the second one.
	told(t, "Write", y.d.Write(y.first()+1, []byte(fill('x'))), api.OK)
	y.d.Crash([]int{2})
	y.pushes(0, 9, 0, api.ErrTorn)
	y.away(2, 0, 1, 'a')
	y.waits(2, 0)
	y.steps(0, 0, api.ErrTorn)
	y.steps(9, 0, api.ErrTorn)
	y.waits(2, 0)
	y.numbered(2)
	// Other bytes stand there.
	told(t, "Write", y.d.Write(y.first()+1, []byte(fill('x'))), api.OK)
	y.steps(9, 0, api.ErrSum)
	y.pushes(9, 9, 0, api.ErrSum)
	y.stored(1)
	y.writes(2, 1, 'd')
	y.pushes(9, 9, 2, api.OK)
	y.away(2, 1, 3, 'd')
	y.away(2, 2, 4, 'c')
	// The power is off: pages that wait are read, blocks aren't.
	y.writes(2, 0, 'e')
	y.d.Arm(0)
	y.d.Flush()
	y.steps(9, 0, api.ErrDown)
	y.pushes(9, 0, 0, api.OK)
	y.pushes(9, 1, 0, api.ErrDown)
	y.waits(1, 9)
	y.stored(3)
	// The pages are in their places alone: not even the chunks can be listed.
	y.d.Crash([]int{1, 1, 1})
	y.pushes(9, 9, 1, api.OK)
	told(t, "Commit", y.p.Commit(), api.OK)
	told(t, "Checkpoint", y.p.Checkpoint(), api.OK)
	y.steps(9, nothingWaits, api.OK)
	y.d.Arm(0)
	y.d.Flush()
	y.steps(9, 0, api.ErrDown)
	y.pushes(9, 0, 0, api.ErrDown)
	y.steps(-1, 0, api.ErrArg)
	y.numbered(6)
}

// The power goes off between a blob and its chunk: the blob is there, the chunk is dirty still, and goes away by another number.
func TestDownBehindPut(t *testing.T) {
	y := built(t, 20, 2, doubling())
	none := y.c.Mark()
	y.writes(2, 0, 'a')
	y.writes(2, 1, 'b')
	both := y.c.Mark()
	told(t, "Back", y.c.Back(none), api.OK)
	y.writes(2, 0, 'c')
	y.writes(2, 1, 'd')
	// Going back to both is cut short, so the next change of the chunks begins by a write.
	y.d.Arm(1)
	told(t, "Back", y.c.Back(both), api.OK)
	y.d.Crash(nil)
	told(t, "Commit", y.p.Commit(), api.OK)
	told(t, "Checkpoint", y.p.Checkpoint(), api.OK)
	for i, push := range []bool{false, true} {
		y.d.Arm(0)
		if push {
			y.pushes(0, 2, 0, api.ErrDown)
		} else {
			y.steps(0, 0, api.ErrDown)
		}
		y.d.Crash(nil)
		y.stored(i + 1)
		y.blob(i+1, 'a')
		y.away(2, 0, 0, 'a')
		y.waits(2, 0)
	}
	y.pushes(0, 2, 2, api.OK)
	y.away(2, 0, 3, 'a')
	y.away(2, 1, 4, 'b')
}

// Uploaders of two epochs go about the same chunks: each has numbers of its own, and names that the other one hasn't.
func TestEpochs(t *testing.T) {
	y := built(t, 20, 9, doubling())
	other, _ := upload.New(y.c, y.s, doubling(), 4)
	y.writes(2, 0, 'a')
	y.writes(2, 1, 'b')
	y.steps(0, wentAway, api.OK)
	if k, e := other.Push(0, 9); k != 1 || e != api.OK {
		t.Error(k, e)
	}
	if x, e := y.c.Get(2, 1); x.Epoch != 4 || x.Num != 1 || e != api.OK {
		t.Error(x, e)
	}
	y.waits(1, 0)
	y.steps(0, nothingWaits, api.OK)
	y.blob(1, 'a')
	if b, e := y.s.Get("c-4-1"); string(b) != fill('b') || e != api.OK {
		t.Error(len(b), e)
	}
}
