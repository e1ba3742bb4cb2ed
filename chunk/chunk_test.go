package chunk_test

import (
	"math"
	"slices"
	"strings"
	"testing"

	"cistern/api"
	"cistern/chunk"
	"cistern/flash"
	"cistern/pack"
	"cistern/page"
	"cistern/tree"
)

const (
	dirty  = 1
	clean  = 2
	absent = 3
)

// The greatest numbers of a file, and of a blob.
const (
	mostIno  = 1<<32 - 1
	mostBlob = 1<<31 - 1
)

func told(t *testing.T, what string, got, want api.Errno) {
	t.Helper()
	if got != want {
		t.Errorf("%s: %d, not %d", what, got, want)
	}
}

// fill is a chunk of one byte.
func fill(c byte) string {
	return strings.Repeat(string([]byte{c}), api.Chunk)
}

func crc(b string) int {
	return pack.Crc([]byte(b))
}

// yard is all that chunks lie in.
type yard struct {
	t             *testing.T
	d             *flash.Device
	s             *page.Store
	r             *tree.Tree
	c             *chunk.Chunks
	pages, blocks int
}

// log is how many sectors the log has: all pages go into one commit.
func (y *yard) log() int {
	return max(y.pages+1, 4)
}

// first is the sector of block 0.
func (y *yard) first() int {
	return 2 + y.log() + y.pages
}

// ground is a new device with an empty tree in so many pages, and so many blocks without a chunk.
func ground(t *testing.T, pages, blocks int) *yard {
	t.Helper()
	y := &yard{t: t, pages: pages, blocks: blocks}
	y.d, _ = flash.New(y.first() + blocks)
	if e := page.Format(y.d, y.log(), pages); e != api.OK {
		t.Fatal("Format", e)
	}
	y.mount()
	return y
}

// mount opens what lasts on the device.
func (y *yard) mount() {
	y.t.Helper()
	var e api.Errno
	if y.s, e = page.Mount(y.d, y.log(), y.pages); e != api.OK {
		y.t.Fatal("Mount", e)
	}
	if y.r, e = tree.Open(y.s); e != api.OK {
		y.t.Fatal("tree.Open", e)
	}
	y.open()
}

// open opens the chunks in the tree.
func (y *yard) open() {
	y.t.Helper()
	var e api.Errno
	if y.c, e = chunk.New(y.r, y.d, y.first(), y.blocks); e != api.OK || y.c == nil {
		y.t.Fatal("New", e)
	}
}

func (y *yard) writes(ino, index int, b string) {
	y.t.Helper()
	told(y.t, "Write", y.c.Write(ino, index, b), api.OK)
}

// is asks what is known of a chunk, and for its bytes, if it is here.
func (y *yard) is(ino, index, state, epoch, num int, b string) {
	y.t.Helper()
	want := chunk.Extent{Ino: ino, Index: index, State: state, Epoch: epoch, Num: num, Sum: crc(b)}
	if x, e := y.c.Get(ino, index); x != want || e != api.OK {
		y.t.Errorf("Get(%d, %d): %v, %d, not %v", ino, index, x, e, want)
	}
	wanted := api.OK
	if state == absent {
		b, wanted = "", api.ErrStale
	}
	if got, e := y.c.Read(ino, index); got != b || e != wanted {
		y.t.Errorf("Read(%d, %d): %q.., %d", ino, index, got[:min(len(got), 3)], e)
	}
}

// misses asks for a chunk that isn't there.
func (y *yard) misses(ino, index int) {
	y.t.Helper()
	if x, e := y.c.Get(ino, index); x != (chunk.Extent{}) || e != api.ErrMiss {
		y.t.Errorf("Get(%d, %d): %v, %d", ino, index, x, e)
	}
	if b, e := y.c.Read(ino, index); b != "" || e != api.ErrMiss {
		y.t.Errorf("Read(%d, %d): %d bytes, %d", ino, index, len(b), e)
	}
}

func (y *yard) frees(want int) {
	y.t.Helper()
	if got := y.c.Free(); got != want {
		y.t.Errorf("Free: %d, not %d", got, want)
	}
}

func (y *yard) settles(want int) {
	y.t.Helper()
	if got := y.c.Settle(); got != want {
		y.t.Errorf("Settle: %d, not %d", got, want)
	}
}

// goes makes a chunk clean.
func (y *yard) goes(ino, index, epoch, num int) {
	y.t.Helper()
	told(y.t, "Clean", y.c.Clean(ino, index, epoch, num), api.OK)
}

func (y *yard) evicts(ino, index int) {
	y.t.Helper()
	told(y.t, "Evict", y.c.Evict(ino, index), api.OK)
}

// pairs tells all pairs of the tree.
func (y *yard) pairs() []api.Pair {
	y.t.Helper()
	l, e := y.r.Range("", "", math.MaxInt)
	if e != api.OK {
		y.t.Fatal("Range", e)
	}
	return l
}

// listed tells the chunks as List does.
func (y *yard) listed() []chunk.Extent {
	y.t.Helper()
	l, e := y.c.List()
	told(y.t, "List", e, api.OK)
	return l
}

// bytes tells the bytes of all chunks that are here.
func (y *yard) bytes() string {
	y.t.Helper()
	all := ""
	for _, x := range y.listed() {
		if x.State != absent {
			b, e := y.c.Read(x.Ino, x.Index)
			told(y.t, "Read", e, api.OK)
			all += b
		}
	}
	return all
}

// refuses asks for something that is refused: beside an error nothing is changed.
func (y *yard) refuses(what string, want api.Errno, do func() api.Errno) {
	y.t.Helper()
	before, bytes, free := y.pairs(), y.bytes(), y.c.Free()
	told(y.t, what, do(), want)
	if !slices.Equal(y.pairs(), before) || y.bytes() != bytes || y.c.Free() != free {
		y.t.Errorf("%s has changed something beside %d", what, want)
	}
}

// What follows is a refusal of each call that changes something.

func (y *yard) noWrite(want api.Errno, ino, index int, b string) {
	y.t.Helper()
	y.refuses("Write", want, func() api.Errno { return y.c.Write(ino, index, b) })
}

func (y *yard) noClean(want api.Errno, ino, index, epoch, num int) {
	y.t.Helper()
	y.refuses("Clean", want, func() api.Errno { return y.c.Clean(ino, index, epoch, num) })
}

func (y *yard) noEvict(want api.Errno, ino, index int) {
	y.t.Helper()
	y.refuses("Evict", want, func() api.Errno { return y.c.Evict(ino, index) })
}

func (y *yard) noFill(want api.Errno, ino, index int, b string) {
	y.t.Helper()
	y.refuses("Fill", want, func() api.Errno { return y.c.Fill(ino, index, b) })
}

func TestExample(t *testing.T) {
	y := ground(t, 50, 8)
	a, b := fill('a'), fill('b')
	y.writes(2, 0, a)
	y.is(2, 0, dirty, 0, 0, a)
	y.goes(2, 0, 1, 5)
	y.is(2, 0, clean, 1, 5, a)
	y.evicts(2, 0)
	y.is(2, 0, absent, 1, 5, a)
	y.noFill(api.ErrSum, 2, 0, b)
	told(t, "Fill", y.c.Fill(2, 0, a), api.OK)
	y.is(2, 0, clean, 1, 5, a)
	y.writes(2, 0, b)
	y.is(2, 0, dirty, 0, 0, b)

	y = ground(t, 50, 2)
	y.writes(2, 0, a)
	y.writes(2, 0, b)
	y.frees(0)
	y.noWrite(api.ErrSpace, 2, 1, a)
	y.settles(1)
	y.writes(2, 1, a)
}

// New asks for the tree, the device and the blocks ahead of all else.
func TestNewRefuses(t *testing.T) {
	y := ground(t, 50, 8)
	size := y.d.Size()
	for _, x := range []struct {
		what          string
		r             *tree.Tree
		d             *flash.Device
		first, blocks int
		want          api.Errno
	}{
		{"no tree", nil, y.d, y.first(), 8, api.ErrArg},
		{"no device", y.r, nil, y.first(), 8, api.ErrArg},
		{"a tree that Open didn't make", &tree.Tree{}, y.d, y.first(), 8, api.ErrArg},
		{"a device of no sectors", y.r, &flash.Device{}, 0, 1, api.ErrArg},
		{"first below 0", y.r, y.d, -1, 8, api.ErrArg},
		{"the least first", y.r, y.d, math.MinInt, 8, api.ErrArg},
		{"no blocks", y.r, y.d, y.first(), 0, api.ErrArg},
		{"fewer than none", y.r, y.d, y.first(), -1, api.ErrArg},
		{"the fewest", y.r, y.d, y.first(), math.MinInt, api.ErrArg},
		{"one too many", y.r, y.d, y.first(), 9, api.ErrArg},
		{"as many as a device may have", y.r, y.d, 0, api.MaxBlocks, api.ErrArg},
		{"more than a device may have", y.r, y.d, 0, api.MaxBlocks + 1, api.ErrArg},
		{"the most blocks", y.r, y.d, 1, math.MaxInt, api.ErrArg},
		{"first too far", y.r, y.d, y.first() + 1, 8, api.ErrArg},
		{"first at the end", y.r, y.d, size, 1, api.ErrArg},
		{"first above all devices", y.r, y.d, api.MaxSectors + 1, 1, api.ErrArg},
		{"the greatest first", y.r, y.d, math.MaxInt, 8, api.ErrArg},
		{"the greatest of both", y.r, y.d, math.MaxInt, math.MaxInt, api.ErrArg},
		{"just so", y.r, y.d, y.first(), 8, api.OK},
		{"the last sector alone", y.r, y.d, size - 1, 1, api.OK},
		{"all sectors", y.r, y.d, 0, size, api.OK},
		{"fewer", y.r, y.d, y.first() + 3, 2, api.OK},
	} {
		c, e := chunk.New(x.r, x.d, x.first, x.blocks)
		if e != x.want || (c == nil) != (e != api.OK) {
			t.Errorf("%s: %v, %d", x.what, c, e)
		}
		if c.Free() != 0 && c.Free() != x.blocks {
			t.Errorf("%s: %d are free", x.what, c.Free())
		}
	}
	told(t, "Put", y.r.Put("x", "no chunk"), api.OK)
	if c, e := chunk.New(y.r, y.d, y.first(), 9); c != nil || e != api.ErrArg {
		t.Error("ErrArg comes ahead of ErrForm", c, e)
	}
	if y.r.Count() != 1 {
		t.Error("New has changed the tree")
	}
}

// A device of the most sectors may be blocks all over.
func TestMostBlocks(t *testing.T) {
	y := ground(t, 50, 1)
	d, _ := flash.New(api.MaxSectors)
	c, e := chunk.New(y.r, d, 0, api.MaxBlocks)
	if e != api.OK || c.Free() != api.MaxBlocks {
		t.Fatal(e, c.Free())
	}
	for i := range api.MaxBlocks {
		told(t, "Write", c.Write(1, 3, fill(byte(i))), api.OK)
	}
	told(t, "Write", c.Write(1, 3, fill('x')), api.ErrSpace)
	// The last block of all has a pair like all others.
	y.d, y.c = d, c
	y.is(1, 3, dirty, 0, 0, fill(255))
	if c, e = chunk.New(y.r, d, 0, api.MaxBlocks); e != api.OK || c.Free() != api.MaxBlocks-1 {
		t.Error(e, c.Free())
	}
	if b, e := c.Read(1, 3); b != fill(255) || e != api.OK {
		t.Error(e)
	}
	if c, e = chunk.New(y.r, d, 0, api.MaxBlocks-1); c != nil || e != api.ErrForm {
		t.Error("its block is none of so few", e)
	}
	if c, e := chunk.New(y.r, d, 1, api.MaxBlocks); c != nil || e != api.ErrArg {
		t.Error(e)
	}
	if c, e := chunk.New(y.r, d, api.MaxSectors, 1); c != nil || e != api.ErrArg {
		t.Error(e)
	}
}

func TestOfNothing(t *testing.T) {
	for _, c := range []*chunk.Chunks{nil, {}} {
		for what, do := range map[string]func() api.Errno{
			"Get":   func() api.Errno { _, e := c.Get(2, 0); return e },
			"List":  func() api.Errno { _, e := c.List(); return e },
			"Read":  func() api.Errno { _, e := c.Read(2, 0); return e },
			"Write": func() api.Errno { return c.Write(2, 0, fill('a')) },
			"Clean": func() api.Errno { return c.Clean(2, 0, 1, 1) },
			"Evict": func() api.Errno { return c.Evict(2, 0) },
			"Fill":  func() api.Errno { return c.Fill(2, 0, fill('a')) },
			"Cut":   func() api.Errno { return c.Cut(2, 0) },
			"Back":  func() api.Errno { return c.Back(nil) },
			"back":  func() api.Errno { return c.Back(&chunk.Mark{}) },
			"other": func() api.Errno { return c.Back(ground(t, 4, 1).c.Mark()) },
		} {
			told(t, what, do(), api.ErrArg)
		}
		if c.Free() != 0 || c.Settle() != 0 || c.Mark() != nil {
			t.Error("of nothing there is nothing")
		}
	}
}

func TestGet(t *testing.T) {
	y := ground(t, 50, 8)
	y.writes(2, 0, fill('a'))
	y.writes(2, 31, fill('b'))
	y.writes(mostIno, 7, fill('c'))
	y.writes(1, 0, fill('d'))
	y.is(2, 0, dirty, 0, 0, fill('a'))
	y.is(2, 31, dirty, 0, 0, fill('b'))
	y.is(mostIno, 7, dirty, 0, 0, fill('c'))
	y.is(1, 0, dirty, 0, 0, fill('d'))
	// Numbers that are like others in their last bytes are others.
	for _, ino := range []int{0, -1, -2, 3, 1<<32 + 2, 1 << 32, 1<<32 + 1, 1<<33 - 1, math.MaxInt, math.MinInt, math.MinInt + 2, 258, 512} {
		for _, index := range []int{0, 7, 31} {
			y.misses(ino, index)
		}
	}
	for _, index := range []int{-1, 1, 30, 32, 33, 255, 256, 256 + 31, -256, -225, math.MaxInt, math.MinInt} {
		y.misses(2, index)
	}
	want := []chunk.Extent{
		{Ino: 1, Index: 0, State: dirty, Sum: crc(fill('d'))}, {Ino: 2, Index: 0, State: dirty, Sum: crc(fill('a'))},
		{Ino: 2, Index: 31, State: dirty, Sum: crc(fill('b'))}, {Ino: mostIno, Index: 7, State: dirty, Sum: crc(fill('c'))},
	}
	if l := y.listed(); !slices.Equal(l, want) {
		t.Error(l)
	}
}

// All are told by number, then by index, rising, whatever order they were written in.
func TestList(t *testing.T) {
	y := ground(t, 300, 400)
	if l := y.listed(); len(l) != 0 {
		t.Error(l)
	}
	inos := []int{300, 2, 256, 1, 255, 65536, 1 << 24, 257, mostIno, 65535}
	for i := range api.MaxChunks {
		for _, ino := range inos {
			y.writes(ino, i*7%api.MaxChunks, fill(byte(ino+i)))
		}
	}
	slices.Sort(inos)
	l := y.listed()
	if len(l) != len(inos)*api.MaxChunks {
		t.Fatal(len(l))
	}
	for i, x := range l {
		if x.Ino != inos[i/api.MaxChunks] || x.Index != i%api.MaxChunks {
			t.Error(i, x)
		}
	}
	y.frees(400 - len(l))
	told(t, "Check", y.r.Check(), api.OK)
}

func TestWriteRefuses(t *testing.T) {
	y := ground(t, 50, 4)
	y.writes(2, 0, fill('a'))
	for _, ino := range []int{0, -1, mostIno + 1, 1<<32 + 2, math.MaxInt, math.MinInt} {
		y.noWrite(api.ErrArg, ino, 0, fill('a'))
	}
	for _, index := range []int{-1, 32, 256, math.MaxInt, math.MinInt} {
		y.noWrite(api.ErrArg, 2, index, fill('a'))
	}
	for _, b := range []string{"", "a", fill('a')[1:], fill('a') + "a", fill('a') + fill('a'), strings.Repeat("a", 1<<20)} {
		y.noWrite(api.ErrArg, 2, 0, b)
		y.noFill(api.ErrArg, 2, 0, b)
		y.noFill(api.ErrArg, 9, 0, b)
	}
	// Without a free block the arguments come first still.
	y.writes(2, 0, fill('b'))
	y.writes(2, 1, fill('b'))
	y.writes(2, 1, fill('c'))
	y.frees(0)
	y.noWrite(api.ErrSpace, 2, 0, fill('d'))
	y.noWrite(api.ErrSpace, 3, 0, fill('d'))
	y.noWrite(api.ErrArg, 0, 0, fill('d'))
	y.noWrite(api.ErrArg, 2, 32, fill('d'))
	y.noWrite(api.ErrArg, 2, 0, "d")
	y.is(2, 0, dirty, 0, 0, fill('b'))
	y.is(2, 1, dirty, 0, 0, fill('c'))
}

// A chunk that is written is dirty, whatever it was; the block that it had is given back.
func TestWriteAnew(t *testing.T) {
	y := ground(t, 50, 8)
	for _, x := range []struct{ state, given int }{{0, 0}, {dirty, 1}, {clean, 1}, {absent, 0}} {
		told(t, "Cut", y.c.Cut(2, 0), api.OK)
		y.c.Settle()
		if x.state >= dirty {
			y.writes(2, 5, fill('a'))
		}
		if x.state >= clean {
			y.goes(2, 5, 7, 8)
		}
		if x.state == absent {
			y.evicts(2, 5)
		}
		y.c.Settle()
		free := y.c.Free()
		y.writes(2, 5, fill('b'))
		y.is(2, 5, dirty, 0, 0, fill('b'))
		y.frees(free - 1)
		y.settles(x.given)
		y.frees(free - 1 + x.given)
		y.settles(0)
	}
}

func TestClean(t *testing.T) {
	y := ground(t, 50, 8)
	y.writes(2, 0, fill('a'))
	for _, x := range [][2]int{{-1, 1}, {1, -1}, {mostBlob + 1, 1}, {1, mostBlob + 1}, {math.MinInt, 0}, {0, math.MaxInt}, {1 << 32, 0}, {0, 1 << 32}} {
		y.noClean(api.ErrArg, 2, 0, x[0], x[1])
		y.noClean(api.ErrArg, 2, 1, x[0], x[1])
		y.noClean(api.ErrArg, -2, 99, x[0], x[1])
	}
	for _, x := range [][2]int{{2, 1}, {3, 0}, {0, 0}, {-2, 0}, {1<<32 + 2, 0}, {2, 32}, {2, -1}, {2, 256}} {
		y.noClean(api.ErrMiss, x[0], x[1], 1, 1)
		y.noEvict(api.ErrMiss, x[0], x[1])
		y.noFill(api.ErrMiss, x[0], x[1], fill('a'))
	}
	y.noEvict(api.ErrStale, 2, 0)
	y.noFill(api.ErrStale, 2, 0, fill('a'))
	y.noFill(api.ErrStale, 2, 0, fill('b'))
	y.frees(7)
	y.goes(2, 0, 0, 0)
	y.is(2, 0, clean, 0, 0, fill('a'))
	y.noClean(api.ErrStale, 2, 0, 0, 0)
	y.noClean(api.ErrArg, 2, 0, 0, -1)
	y.noFill(api.ErrStale, 2, 0, fill('a'))
	y.frees(7)
	y.settles(0)
	y.writes(2, 0, fill('b'))
	y.goes(2, 0, mostBlob, mostBlob)
	y.is(2, 0, clean, mostBlob, mostBlob, fill('b'))
	y.evicts(2, 0)
	y.is(2, 0, absent, mostBlob, mostBlob, fill('b'))
	y.noClean(api.ErrStale, 2, 0, 1, 1)
	y.noEvict(api.ErrStale, 2, 0)
}

func TestEvictAndFill(t *testing.T) {
	y := ground(t, 50, 2)
	y.writes(2, 0, fill('a'))
	y.writes(2, 1, fill('b'))
	y.goes(2, 0, 3, 4)
	y.frees(0)
	y.evicts(2, 0)
	// Its block is given back, and isn't free yet.
	y.frees(0)
	y.noFill(api.ErrSum, 2, 0, fill('b'))
	y.noFill(api.ErrSum, 2, 0, fill('a')[1:]+"b")
	y.noFill(api.ErrSpace, 2, 0, fill('a'))
	y.noFill(api.ErrArg, 2, 0, "a")
	y.noFill(api.ErrMiss, 2, 2, fill('a'))
	y.noFill(api.ErrStale, 2, 1, fill('b'))
	y.settles(1)
	y.frees(1)
	told(t, "Fill", y.c.Fill(2, 0, fill('a')), api.OK)
	y.is(2, 0, clean, 3, 4, fill('a'))
	y.is(2, 1, dirty, 0, 0, fill('b'))
	y.frees(0)
	y.settles(0)
}

// Cut takes the chunks of one file from an index on, of all states.
func TestCut(t *testing.T) {
	y := ground(t, 100, 40)
	for _, index := range []int{-1, -32, math.MinInt} {
		y.refuses("Cut", api.ErrArg, func() api.Errno { return y.c.Cut(2, index) })
		y.refuses("Cut", api.ErrArg, func() api.Errno { return y.c.Cut(-1, index) })
	}
	for ino := 1; ino <= 3; ino++ {
		for _, index := range []int{0, 1, 5, 30, 31} {
			y.writes(ino, index, fill(byte(16*ino+index)))
		}
		y.goes(ino, 1, 1, ino)
		y.goes(ino, 30, 2, ino)
		y.evicts(ino, 30)
	}
	y.settles(3)
	y.frees(40 - 12)
	before, pairs := y.listed(), y.r.Count()
	for _, x := range [][2]int{{2, 32}, {2, 33}, {2, 256}, {2, math.MaxInt}, {4, 0}, {0, 0}, {-2, 0}, {1<<32 + 2, 0}, {mostIno + 1, 0}, {math.MinInt, 0}, {mostIno, 0}} {
		told(t, "Cut", y.c.Cut(x[0], x[1]), api.OK)
		if !slices.Equal(y.listed(), before) || y.r.Count() != pairs || y.c.Settle() != 0 {
			t.Fatal("there was nothing to be cut", x)
		}
	}
	told(t, "Cut", y.c.Cut(2, 31), api.OK)
	y.misses(2, 31)
	y.settles(1)
	told(t, "Cut", y.c.Cut(2, 30), api.OK)
	y.misses(2, 30)
	y.settles(0)
	y.is(2, 5, dirty, 0, 0, fill(32+5))
	told(t, "Cut", y.c.Cut(2, 1), api.OK)
	y.frees(40 - 11)
	y.settles(2)
	y.misses(2, 1)
	y.misses(2, 5)
	y.is(2, 0, dirty, 0, 0, fill(32))
	told(t, "Cut", y.c.Cut(2, 0), api.OK)
	y.settles(1)
	for _, ino := range []int{1, 3} {
		y.is(ino, 0, dirty, 0, 0, fill(byte(16*ino)))
		y.is(ino, 1, clean, 1, ino, fill(byte(16*ino+1)))
		y.is(ino, 30, absent, 2, ino, fill(byte(16*ino+30)))
		y.is(ino, 31, dirty, 0, 0, fill(byte(16*ino+31)))
	}
	y.frees(40 - 8)
	if n := len(y.listed()); n != 10 {
		t.Error(n)
	}
}

// What stands in a block is told to be another thing than the chunk's bytes, or torn.
func TestReadFindsFaults(t *testing.T) {
	y := ground(t, 50, 1)
	y.writes(2, 0, fill('a'))
	told(t, "Commit", y.s.Commit(), api.OK)
	told(t, "Write", y.d.Write(y.first(), []byte(fill('a')[1:]+"b")), api.OK)
	if b, e := y.c.Read(2, 0); b != "" || e != api.ErrSum {
		t.Error(len(b), e)
	}
	y.d.Crash([]int{2})
	if b, e := y.c.Read(2, 0); b != "" || e != api.ErrTorn {
		t.Error(len(b), e)
	}
	told(t, "Write", y.d.Write(y.first(), []byte(fill('a'))), api.OK)
	y.is(2, 0, dirty, 0, 0, fill('a'))
	y.d.Arm(0)
	told(t, "Flush", y.d.Flush(), api.ErrDown)
	if b, e := y.c.Read(2, 0); b != "" || e != api.ErrDown {
		t.Error(len(b), e)
	}
	told(t, "Write", y.c.Write(2, 0, fill('b')), api.ErrSpace)
	told(t, "Write", y.c.Write(2, 0, "b"), api.ErrArg)
}

// Each block is its own sector, and no other sectors are written.
func TestSectors(t *testing.T) {
	y := ground(t, 40, 3)
	y.writes(2, 0, fill('a'))
	y.writes(2, 1, fill('b'))
	y.writes(3, 0, fill('c'))
	if n := y.d.Pending(); n != 3 {
		t.Errorf("%d writes", n)
	}
	var l []string
	for i := range 3 {
		b, e := y.d.Read(y.first() + i)
		told(t, "Read", e, api.OK)
		l = append(l, string(b))
	}
	slices.Sort(l)
	if !slices.Equal(l, []string{fill('a'), fill('b'), fill('c')}) {
		t.Error("these are other bytes")
	}
}

// One pair for each chunk, whose key begins with x, and no other pairs; a change of a chunk that is there makes it no longer.
func TestPairs(t *testing.T) {
	y := ground(t, 50, 8)
	others := []api.Pair{{Key: "b", Val: "1"}, {Key: "n", Val: "2"}, {Key: "w\xff", Val: "3"}, {Key: "y", Val: "4"}, {Key: "X", Val: "5"}}
	for _, p := range others {
		told(t, "Put", y.r.Put(p.Key, p.Val), api.OK)
	}
	y.open()
	size := 0
	has := func(n int) {
		t.Helper()
		if y.r.Count() != n+len(others) {
			t.Errorf("%d pairs for %d chunks", y.r.Count()-len(others), n)
		}
		for _, p := range y.pairs() {
			if p.Key[0] == 'x' && size == 0 {
				size = len(p.Val)
			}
			if p.Key[0] == 'x' && len(p.Val) != size {
				t.Errorf("%q is longer than %d bytes, or shorter", p.Val, size)
			}
			if p.Key[0] != 'x' && !slices.Contains(others, p) {
				t.Errorf("%q", p)
			}
		}
	}
	has(0)
	y.writes(2, 0, fill('a'))
	has(1)
	y.writes(2, 0, fill('b'))
	has(1)
	y.writes(mostIno, 31, fill('c'))
	has(2)
	y.goes(2, 0, mostBlob, mostBlob)
	has(2)
	y.evicts(2, 0)
	has(2)
	told(t, "Fill", y.c.Fill(2, 0, fill('b')), api.OK)
	has(2)
	y.writes(2, 0, fill('d'))
	has(2)
	told(t, "Cut", y.c.Cut(2, 0), api.OK)
	has(1)
	told(t, "Cut", y.c.Cut(mostIno, 31), api.OK)
	has(0)
}

// What is answered is new memory: it may be changed.
func TestNewMemory(t *testing.T) {
	y := ground(t, 50, 8)
	y.writes(2, 0, fill('a'))
	y.writes(2, 1, fill('b'))
	l, m := y.listed(), y.listed()
	spare := append(l, chunk.Extent{Ino: 9})
	l[0], l[1] = chunk.Extent{}, chunk.Extent{Ino: 7}
	if m[0].Ino != 2 || m[1].Index != 1 || spare[2].Ino != 9 || len(y.listed()) != 2 || y.listed()[0].Ino != 2 {
		t.Error(m)
	}
}
