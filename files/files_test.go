package files_test

import (
	"bytes"
	"math"
	"slices"
	"strings"
	"testing"

	"cistern/api"
	"cistern/blob"
	"cistern/chunk"
	"cistern/files"
	"cistern/flash"
	"cistern/names"
	"cistern/pack"
	"cistern/page"
	"cistern/tree"
)

const (
	file      = 1
	directory = 2
)

const (
	dirty  = 1
	clean  = 2
	absent = 3
)

func told(t *testing.T, what string, got, want api.Errno) {
	t.Helper()
	if got != want {
		t.Errorf("%s: %d, not %d", what, got, want)
	}
}

// fill is so many bytes of one kind.
func fill(c byte, n int) string {
	return strings.Repeat(string([]byte{c}), n)
}

// noughts are so many of them.
func noughts(n int) string {
	return fill(0, n)
}

// house is all that files stand in.
type house struct {
	t             *testing.T
	d             *flash.Device
	p             *page.Store
	r             *tree.Tree
	n             *names.Names
	c             *chunk.Chunks
	s             *blob.Store
	f             *files.Files
	pages, blocks int
}

// log is how many sectors the log has: all pages go into one commit.
func (h *house) log() int {
	return max(h.pages+1, 4)
}

// built is a new house, with a file of number 2, /f, and a directory of number 3, /d.
func built(t *testing.T, pages, blocks int) *house {
	t.Helper()
	h := &house{t: t, pages: pages, blocks: blocks, s: blob.New()}
	h.d, _ = flash.New(2 + h.log() + pages + blocks)
	if e := page.Format(h.d, h.log(), pages); e != api.OK {
		t.Fatal("Format", e)
	}
	h.mount()
	h.made("/f", file, 2)
	h.made("/d", directory, 3)
	return h
}

// mount opens what lasts on the device.
func (h *house) mount() {
	h.t.Helper()
	var e [5]api.Errno
	h.p, e[0] = page.Mount(h.d, h.log(), h.pages)
	h.r, e[1] = tree.Open(h.p)
	h.n, e[2] = names.New(h.r)
	h.c, e[3] = chunk.New(h.r, h.d, 2+h.log()+h.pages, h.blocks)
	h.f, e[4] = files.New(h.n, h.c, h.s)
	if e != ([5]api.Errno{}) {
		h.t.Fatal("mount", e)
	}
}

func (h *house) made(path string, kind, want int) {
	h.t.Helper()
	if i, e := h.n.Make(path, kind); i != want || e != api.OK {
		h.t.Fatal(path, i, e)
	}
}

func (h *house) reads(ino, off, n int, want string) {
	h.t.Helper()
	if b, e := h.f.Read(ino, off, n); string(b) != want || e != api.OK {
		h.t.Errorf("Read(%d, %d, %d): %d bytes %.20q, %d, not %d %.20q", ino, off, n, len(b), b, e, len(want), want)
	}
}

func (h *house) writes(ino, off int, b string) {
	h.t.Helper()
	told(h.t, "Write", h.f.Write(ino, off, []byte(b)), api.OK)
}

func (h *house) cuts(ino, size int) {
	h.t.Helper()
	told(h.t, "Truncate", h.f.Truncate(ino, size), api.OK)
	h.sized(ino, size)
}

func (h *house) sized(ino, want int) {
	h.t.Helper()
	if i, e := h.n.Info(ino); i.Size != want || e != api.OK {
		h.t.Errorf("Info(%d): %v, %d, not %d", ino, i, e, want)
	}
}

// there asks for a file's chunks: by index their states, 0 where there is none.
func (h *house) there(ino int, want ...int) {
	h.t.Helper()
	var got []int
	for i := range api.MaxChunks {
		x, _ := h.c.Get(ino, i)
		got = append(got, x.State)
	}
	want = append(want, make([]int, api.MaxChunks-len(want))...)
	if !slices.Equal(got, want) {
		h.t.Errorf("chunks of %d: %v, not %v", ino, got, want)
	}
}

// puts puts a chunk into the store, as a blob of epoch 1 and a number of its own.
func (h *house) puts(ino, index int) {
	h.t.Helper()
	b, e := h.c.Read(ino, index)
	told(h.t, "chunk.Read", e, api.OK)
	num := 100*ino + index
	told(h.t, "Put", h.s.Put(files.Blob(1, num), []byte(b)), api.OK)
	told(h.t, "Clean", h.c.Clean(ino, index, 1, num), api.OK)
}

// goes makes chunks absent, each as a blob in the store.
func (h *house) goes(ino int, indexes ...int) {
	h.t.Helper()
	for _, i := range indexes {
		h.puts(ino, i)
		told(h.t, "Evict", h.c.Evict(ino, i), api.OK)
	}
	h.c.Settle()
}

// pairs tells all pairs of the tree.
func (h *house) pairs() []api.Pair {
	h.t.Helper()
	l, e := h.r.Range("", "", math.MaxInt)
	if e != api.OK {
		h.t.Fatal("Range", e)
	}
	return l
}

// refuses asks for something that is refused: beside an error no file, size or chunk is changed, and no block is taken.
func (h *house) refuses(want api.Errno, do func() api.Errno) {
	h.t.Helper()
	before, free, calls := h.pairs(), h.c.Free(), h.s.Calls()
	told(h.t, "refused", do(), want)
	if !slices.Equal(h.pairs(), before) || h.c.Free() != free {
		h.t.Errorf("something is changed beside %d", want)
	}
	if want != api.ErrRemote && want != api.ErrSum && want != api.ErrSpace && h.s.Calls() != calls {
		h.t.Errorf("the store was asked ahead of %d", want)
	}
}

func (h *house) noRead(want api.Errno, ino, off, n int) {
	h.t.Helper()
	h.refuses(want, func() api.Errno {
		b, e := h.f.Read(ino, off, n)
		if len(b) > 0 {
			h.t.Errorf("%d bytes beside %d", len(b), e)
		}
		return e
	})
}

func (h *house) noWrite(want api.Errno, ino, off int, b string) {
	h.t.Helper()
	h.refuses(want, func() api.Errno { return h.f.Write(ino, off, []byte(b)) })
}

func (h *house) noTruncate(want api.Errno, ino, size int) {
	h.t.Helper()
	h.refuses(want, func() api.Errno { return h.f.Truncate(ino, size) })
}

func TestExample(t *testing.T) {
	h := built(t, 50, 8)
	h.writes(2, 0, "abc")
	h.writes(2, 300, "x")
	h.reads(2, 0, 5, "abc\x00\x00")
	h.reads(2, 298, 9, "\x00\x00x")
	h.sized(2, 301)
	h.cuts(2, 2)
	h.cuts(2, 4)
	h.reads(2, 0, 9, "ab\x00\x00")
	h.noWrite(api.ErrBig, 2, 8192, "a")
	h.reads(2, 9, 1, "")
}

func TestBlob(t *testing.T) {
	for _, x := range []struct {
		epoch, num int
		want       string
	}{
		{1, 20, "c-1-20"}, {0, 0, "c-0-0"}, {10, 0, "c-10-0"}, {1<<31 - 1, 1<<31 - 1, "c-2147483647-2147483647"}, {1 << 62, 7, "c-4611686018427387904-7"},
		{math.MaxInt, math.MaxInt, "c-9223372036854775807-9223372036854775807"},
		{-1, 0, ""}, {0, -1, ""}, {-1, -1, ""}, {math.MinInt, 1, ""}, {1, math.MinInt, ""},
	} {
		if s := files.Blob(x.epoch, x.num); s != x.want {
			t.Errorf("Blob(%d, %d): %q", x.epoch, x.num, s)
		}
	}
}

func TestOfNothing(t *testing.T) {
	h := built(t, 50, 8)
	for _, x := range []struct {
		n *names.Names
		c *chunk.Chunks
		s *blob.Store
	}{{nil, h.c, h.s}, {h.n, nil, h.s}, {h.n, h.c, nil}, {nil, nil, nil}} {
		if f, e := files.New(x.n, x.c, x.s); f != nil || e != api.ErrArg {
			t.Error(f, e)
		}
	}
	// What their own New didn't make is nothing that could be asked.
	none, e := files.New(&names.Names{}, &chunk.Chunks{}, &blob.Store{})
	told(t, "New", e, api.OK)
	for _, f := range []*files.Files{nil, {}, none} {
		if b, e := f.Read(2, 0, 1); b != nil || e != api.ErrArg {
			t.Error(b, e)
		}
		told(t, "Write", f.Write(2, 0, []byte("a")), api.ErrArg)
		told(t, "Truncate", f.Truncate(2, 1), api.ErrArg)
		told(t, "Remove", f.Remove(2), api.ErrArg)
	}
	for _, f := range []*files.Files{nil, {}} {
		// ErrArg comes ahead of all else.
		if b, e := f.Read(2, 0, 1025); b != nil || e != api.ErrArg {
			t.Error(b, e)
		}
		told(t, "Write", f.Write(2, 9000, []byte("a")), api.ErrArg)
		told(t, "Truncate", f.Truncate(2, 9000), api.ErrArg)
	}
}

func TestReadRefuses(t *testing.T) {
	h := built(t, 50, 8)
	h.writes(2, 0, "abc")
	for _, x := range [][2]int{{-1, 0}, {0, -1}, {-1, -1}, {-1, 1025}, {2000, -1}, {math.MinInt, 1}, {1, math.MinInt}} {
		for _, ino := range []int{2, 3, 9} {
			h.noRead(api.ErrArg, ino, x[0], x[1])
		}
	}
	for _, n := range []int{1025, 8192, math.MaxInt} {
		for _, ino := range []int{2, 3, 9, -1} {
			h.noRead(api.ErrBig, ino, 0, n)
			h.noRead(api.ErrBig, ino, math.MaxInt, n)
		}
	}
	for _, ino := range []int{0, -1, 4, 1<<32 + 2, math.MaxInt, math.MinInt} {
		h.noRead(api.ErrMiss, ino, 0, 1)
		h.noRead(api.ErrMiss, ino, 9000, 0)
	}
	for _, ino := range []int{1, 3} {
		h.noRead(api.ErrDir, ino, 0, 1024)
		h.noRead(api.ErrDir, ino, math.MaxInt, 0)
	}
}

func TestRead(t *testing.T) {
	h := built(t, 100, 40)
	h.reads(2, 0, 1024, "")
	want := ""
	for i := range 8 {
		b := fill(byte('a'+i), 1024)
		h.writes(2, 1024*i, b)
		want += b
	}
	h.sized(2, 8192)
	for _, off := range []int{0, 1, 255, 256, 257, 1023, 1024, 5000, 7168, 7169, 8000, 8190, 8191, 8192, 8193, 1 << 20, math.MaxInt} {
		for _, n := range []int{0, 1, 2, 255, 256, 257, 1000, 1023, 1024} {
			h.reads(2, off, n, want[min(off, 8192):min(max(off, min(off, 8192)+n), min(off, 8192)+n, 8192)])
		}
	}
	h.cuts(2, 8000)
	h.reads(2, 7500, 1024, want[7500:8000])
	h.reads(2, 8000, 1, "")
	h.reads(2, 7999, 2, want[7999:8000])
}

// Where there is no chunk there are noughts.
func TestHoles(t *testing.T) {
	h := built(t, 50, 8)
	h.cuts(2, 8192)
	h.there(2)
	h.reads(2, 0, 1024, noughts(1024))
	h.reads(2, 8000, 1024, noughts(192))
	h.writes(2, 1000, "abc")
	h.there(2, 0, 0, 0, dirty)
	h.sized(2, 8192)
	h.reads(2, 700, 1024, noughts(300)+"abc"+noughts(721))
	h.cuts(2, 0)
	h.there(2)
	h.writes(2, 8191, "z")
	h.there(2, slices.Concat(make([]int, 31), []int{dirty})...)
	h.reads(2, 8000, 1024, noughts(191)+"z")
	h.frees(8)
}

// frees asks how many blocks are free when those are settled that were given back.
func (h *house) frees(blocks int) {
	h.t.Helper()
	h.c.Settle()
	for _, x := range h.listed() {
		if x.State != absent {
			blocks--
		}
	}
	if h.c.Free() != blocks {
		h.t.Errorf("%d blocks are free, not %d", h.c.Free(), blocks)
	}
}

func (h *house) listed() []chunk.Extent {
	h.t.Helper()
	l, e := h.c.List()
	told(h.t, "List", e, api.OK)
	return l
}

func TestWriteRefuses(t *testing.T) {
	h := built(t, 50, 8)
	h.writes(2, 0, "abc")
	big := fill('b', 1025)
	for _, ino := range []int{2, 3, 9} {
		for _, off := range []int{-1, math.MinInt} {
			h.noWrite(api.ErrArg, ino, off, "a")
			h.noWrite(api.ErrArg, ino, off, "")
			h.noWrite(api.ErrArg, ino, off, big)
		}
		h.noWrite(api.ErrBig, ino, 0, big)
		h.noWrite(api.ErrBig, ino, 0, fill('b', 1<<16))
		for _, x := range []struct{ off, n int }{{8192, 1}, {8191, 2}, {8193, 0}, {7169, 1024}, {math.MaxInt, 1}, {math.MaxInt, 0}, {math.MaxInt, 1024}, {1 << 32, 1}} {
			h.noWrite(api.ErrBig, ino, x.off, fill('b', x.n))
		}
	}
	for _, ino := range []int{0, -1, 4, 1<<32 + 2, math.MaxInt} {
		h.noWrite(api.ErrMiss, ino, 0, "a")
		h.noWrite(api.ErrMiss, ino, 0, "")
	}
	for _, ino := range []int{1, 3} {
		h.noWrite(api.ErrDir, ino, 0, "a")
		h.noWrite(api.ErrDir, ino, 8192, "")
	}
	// No bytes change nothing, the size neither.
	for _, off := range []int{0, 2, 3, 4, 300, 8192} {
		h.refuses(api.OK, func() api.Errno { return h.f.Write(2, off, nil) })
		h.refuses(api.OK, func() api.Errno { return h.f.Write(2, off, []byte{}) })
	}
	h.reads(2, 0, 9, "abc")
}

func TestWrite(t *testing.T) {
	h := built(t, 100, 60)
	want := []byte(noughts(8192))
	size := 0
	for i, x := range []struct{ off, n int }{
		{0, 1}, {0, 256}, {255, 2}, {1, 1}, {256, 256}, {0, 1024}, {100, 1024}, {1000, 24}, {1024, 256}, {3000, 1}, {2999, 1}, {3001, 5},
		{7168, 1024}, {7167, 1024}, {8191, 1}, {8192, 0}, {5, 0}, {4096, 1024}, {4095, 1}, {4095, 2}, {255, 1}, {254, 1}, {511, 258},
	} {
		b := fill(byte('A'+i), x.n)
		h.writes(2, x.off, b)
		copy(want[x.off:], b)
		if x.n > 0 {
			size = max(size, x.off+x.n)
		}
		h.sized(2, size)
		for off := 0; off < 8192; off += 1024 {
			h.reads(2, off, 1024, string(want[min(off, size):min(off+1024, size)]))
		}
		h.c.Settle()
	}
	h.reads(2, 0, 0, "")
	h.frees(60)
}

// Which chunks are written, and which are left alone.
func TestWriteChunks(t *testing.T) {
	h := built(t, 50, 20)
	for _, x := range []struct{ off, n, first, last int }{
		{0, 1, 0, 0}, {255, 1, 0, 0}, {256, 1, 1, 1}, {255, 2, 0, 1}, {0, 256, 0, 0}, {0, 257, 0, 1}, {1, 256, 0, 1}, {0, 1024, 0, 3}, {1, 1024, 0, 4}, {300, 1000, 1, 5},
	} {
		told(t, "Remove", h.f.Remove(2), api.OK)
		h.cuts(2, 0)
		h.cuts(2, 8192)
		h.c.Settle()
		h.writes(2, x.off, fill('a', x.n))
		h.there(2, slices.Concat(make([]int, x.first), slices.Repeat([]int{dirty}, x.last+1-x.first))...)
		h.frees(20)
		for _, y := range h.listed() {
			h.puts(2, y.Index)
		}
		h.writes(2, x.off, "b")
		h.there(2, slices.Concat(make([]int, x.first), []int{dirty}, slices.Repeat([]int{clean}, x.last-x.first))...)
		if n := h.c.Settle(); n != 1 {
			t.Errorf("%d blocks were given back", n)
		}
	}
}

func TestTruncate(t *testing.T) {
	h := built(t, 100, 60)
	for _, ino := range []int{2, 3, 9} {
		h.noTruncate(api.ErrArg, ino, -1)
		h.noTruncate(api.ErrArg, ino, math.MinInt)
		h.noTruncate(api.ErrBig, ino, 8193)
		h.noTruncate(api.ErrBig, ino, math.MaxInt)
	}
	for _, ino := range []int{0, -1, 4, 1<<32 + 2} {
		h.noTruncate(api.ErrMiss, ino, 0)
	}
	h.noTruncate(api.ErrDir, 1, 0)
	h.noTruncate(api.ErrDir, 3, 8192)
	all := ""
	for i := range 4 {
		h.writes(2, 1024*i, fill(byte('a'+i), 1024))
		all += fill(byte('a'+i), 1024)
	}
	h.c.Settle()
	given, size := 0, 4096
	for _, n := range []int{4096, 4095, 4095, 3841, 3840, 3839, 3585, 3584, 2000, 1999, 1024, 1023, 512, 257, 256, 255, 1, 0, 0} {
		before := len(h.listed())
		h.cuts(2, n)
		for off := 0; off < n; off += 1024 {
			h.reads(2, off, 1024, all[off:min(off+1024, n)])
		}
		// The last one is written anew, if something of it goes; the others go.
		given = before - (n+255)/256
		if n%256 != 0 && n < size {
			given++
		}
		if got := h.c.Settle(); got != given {
			t.Errorf("Truncate to %d has given %d blocks back, not %d", n, got, given)
		}
		h.there(2, slices.Repeat([]int{dirty}, (n+255)/256)...)
		size = n
	}
	h.frees(60)
}

// A file that becomes greater gets noughts, and nothing but its size is written.
func TestTruncateGrows(t *testing.T) {
	h := built(t, 50, 20)
	h.writes(2, 0, fill('a', 700))
	h.cuts(2, 600)
	h.puts(2, 0)
	h.puts(2, 1)
	before, free := h.listed(), h.c.Free()
	for _, n := range []int{600, 601, 700, 768, 769, 8191, 8192} {
		h.cuts(2, n)
		h.reads(2, 500, 1024, fill('a', 100)+noughts(min(n-600, 924)))
		if !slices.Equal(h.listed(), before) || h.c.Free() != free {
			t.Errorf("Truncate to %d has done something to the chunks", n)
		}
	}
	h.cuts(2, 100)
	h.cuts(2, 8192)
	h.reads(2, 0, 1024, fill('a', 100)+noughts(924))
	h.there(2, dirty)
	// Where the last chunk isn't there, nothing but the size is written either.
	calls := h.s.Calls()
	h.c.Settle()
	for _, n := range []int{8191, 8000, 300, 257} {
		h.cuts(2, n)
		h.there(2, dirty)
	}
	if h.s.Calls() != calls || h.c.Settle() != 0 {
		t.Error("there was nothing to be done")
	}
}

func TestRemove(t *testing.T) {
	h := built(t, 50, 20)
	h.made("/g", file, 4)
	h.writes(2, 0, fill('a', 1000))
	h.writes(4, 0, fill('b', 1000))
	h.goes(2, 1)
	h.puts(2, 2)
	for _, ino := range []int{0, 1, 3, 5, -2, 1<<32 + 2, math.MaxInt, math.MinInt} {
		h.refuses(api.OK, func() api.Errno { return h.f.Remove(ino) })
	}
	h.there(2, dirty, absent, clean, dirty)
	told(t, "Remove", h.f.Remove(2), api.OK)
	h.there(2)
	h.there(4, dirty, dirty, dirty, dirty)
	h.sized(2, 1000)
	h.reads(2, 0, 1024, noughts(1000))
	h.reads(4, 0, 1024, fill('b', 1000))
	if n := h.c.Settle(); n != 3 {
		t.Errorf("%d blocks were given back", n)
	}
	// Whether a file is there or not.
	if i, e := h.n.Unlink("/g"); i != 4 || e != api.OK {
		t.Error(i, e)
	}
	told(t, "Remove", h.f.Remove(4), api.OK)
	h.there(4)
	h.frees(20)
}

// What is handed in isn't kept or changed; what is answered is new memory.
func TestNewMemory(t *testing.T) {
	h := built(t, 50, 20)
	b := append(make([]byte, 0, 64), "abcdef"...)
	spare := append(b, "ghi"...)
	told(t, "Write", h.f.Write(2, 1, b[:4]), api.OK)
	if string(spare) != "abcdefghi" {
		t.Errorf("%q", spare)
	}
	copy(b, "XXXXXX")
	h.reads(2, 0, 9, "\x00abcd")
	one, _ := h.f.Read(2, 0, 5)
	two, _ := h.f.Read(2, 0, 5)
	copy(one, "YYYYY")
	copy(one[:cap(one)], bytes.Repeat([]byte("Z"), cap(one)))
	if string(two) != "\x00abcd" {
		t.Errorf("%q", two)
	}
	h.reads(2, 0, 9, "\x00abcd")
	h.goes(2, 0)
	one, _ = h.f.Read(2, 0, 5)
	copy(one[:cap(one)], bytes.Repeat([]byte("Z"), cap(one)))
	h.reads(2, 0, 9, "\x00abcd")
	if b, e := h.s.Get(files.Blob(1, 200)); e != api.OK || string(b) != "\x00abcd"+noughts(251) {
		t.Error(e)
	}
}

// The bytes beyond a file's size are noughts, in its chunks too, and their sum is told by those.
func TestBeyondTheSize(t *testing.T) {
	h := built(t, 50, 20)
	h.writes(2, 0, fill('a', 256))
	h.cuts(2, 9)
	x, e := h.c.Get(2, 0)
	if x.Sum != pack.Crc([]byte(fill('a', 9)+noughts(247))) || e != api.OK {
		t.Error(x, e)
	}
	h.writes(2, 0, "b")
	if b, e := h.c.Read(2, 0); b != "b"+fill('a', 8)+noughts(247) || e != api.OK {
		t.Errorf("%q", b)
	}
}

// What changes nothing puts nothing into the tree, and writes nothing.
func TestNothingToDo(t *testing.T) {
	h := built(t, 50, 20)
	h.writes(2, 0, fill('a', 600))
	told(t, "Commit", h.p.Commit(), api.OK)
	h.reads(2, 100, 1024, fill('a', 500))
	told(t, "Write", h.f.Write(2, 600, nil), api.OK)
	h.cuts(2, 600)
	told(t, "Remove", h.f.Remove(4), api.OK)
	if h.p.Dirty() != 0 || h.d.Pending() != 0 {
		t.Errorf("%d pages and %d writes wait", h.p.Dirty(), h.d.Pending())
	}
}
