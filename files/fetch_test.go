package files_test

import (
	"slices"
	"testing"

	"cistern/api"
	"cistern/files"
)

// asked asks how often the store was asked since.
func (h *house) asked(since, want int) {
	h.t.Helper()
	if n := h.s.Calls() - since; n != want {
		h.t.Errorf("the store was asked %d times, not %d", n, want)
	}
}

// away is a house with a file of 1100 bytes, whose chunks 0 to 4 are of the bytes a to e and all away; so many blocks are free.
func away(t *testing.T, blocks int) *house {
	t.Helper()
	h := built(t, 50, max(blocks, 5))
	h.writes(2, 0, fill('a', 256)+fill('b', 256)+fill('c', 256)+fill('d', 256))
	h.writes(2, 1024, fill('e', 76))
	h.goes(2, 0, 1, 2, 3, 4)
	h.made("/filler", file, 4)
	for i := range h.blocks - blocks {
		told(t, "chunk.Write", h.c.Write(4, i, fill('z', 256)), api.OK)
	}
	if h.c.Free() != blocks {
		t.Fatal(h.c.Free())
	}
	return h
}

// A chunk that is away is fetched once, as long as there is a block for it.
func TestFetch(t *testing.T) {
	h := away(t, 10)
	calls := h.s.Calls()
	h.reads(2, 0, 1, "a")
	h.asked(calls, 1)
	h.there(2, clean, absent, absent, absent, absent)
	h.reads(2, 0, 256, fill('a', 256))
	h.asked(calls, 1)
	h.reads(2, 255, 2, "ab")
	h.asked(calls, 2)
	h.there(2, clean, clean, absent, absent, absent)
	h.reads(2, 500, 1024, fill('b', 12)+fill('c', 256)+fill('d', 256)+fill('e', 76))
	h.asked(calls, 5)
	h.there(2, clean, clean, clean, clean, clean)
	h.reads(2, 0, 1024, fill('a', 256)+fill('b', 256)+fill('c', 256)+fill('d', 256))
	h.asked(calls, 5)
	if x, e := h.c.Get(2, 4); x.Epoch != 1 || x.Num != 204 || e != api.OK {
		t.Error(x, e)
	}
	h.frees(10)
	// Nothing is fetched that isn't wanted.
	h = away(t, 10)
	calls = h.s.Calls()
	h.reads(2, 1100, 1024, "")
	h.reads(2, 300, 0, "")
	h.asked(calls, 0)
	h.there(2, absent, absent, absent, absent, absent)
}

// Without a free block what is fetched is told, and left away.
func TestFetchWithoutBlocks(t *testing.T) {
	h := away(t, 2)
	calls := h.s.Calls()
	h.reads(2, 200, 1024, fill('a', 56)+fill('b', 256)+fill('c', 256)+fill('d', 256)+fill('e', 76))
	h.there(2, clean, clean, absent, absent, absent)
	h.asked(calls, 5)
	h.reads(2, 200, 1024, fill('a', 56)+fill('b', 256)+fill('c', 256)+fill('d', 256)+fill('e', 76))
	h.asked(calls, 8)
	h.there(2, clean, clean, absent, absent, absent)
	// What isn't the chunk's is told all the same.
	told(t, "Put", h.s.Put(files.Blob(1, 203), []byte(fill('D', 256))), api.OK)
	h.noRead(api.ErrSum, 2, 700, 200)
}

// What the store says, and what it keeps: the first fault of the chunks that are wanted, in their order.
func TestFetchErrors(t *testing.T) {
	for _, blocks := range []int{0, 10} {
		for _, outcome := range []int{1, 2} {
			h := away(t, blocks)
			h.s.Script([]int{outcome})
			h.noRead(api.ErrRemote, 2, 0, 1)
			h.reads(2, 0, 1, "a")
			calls := h.s.Calls()
			h.s.Script([]int{0, outcome})
			if b, e := h.f.Read(2, 256, 1024); b != nil || e != api.ErrRemote {
				t.Error(len(b), e)
			}
			h.asked(calls, 2)
			h.reads(2, 256, 1024, fill('b', 256)+fill('c', 256)+fill('d', 256)+fill('e', 76))
		}
		h := away(t, blocks)
		told(t, "Delete", h.s.Delete(files.Blob(1, 200)), api.OK)
		h.noRead(api.ErrRemote, 2, 0, 1024)
		for _, b := range []string{"", "b", fill('b', 255), fill('b', 257), fill('b', 512), fill('b', 255) + "B", fill('B', 256), noughts(256)} {
			told(t, "Put", h.s.Put(files.Blob(1, 201), []byte(b)), api.OK)
			h.noRead(api.ErrSum, 2, 256, 1)
			h.noRead(api.ErrRemote, 2, 255, 2)
		}
		// That of the second one is ahead of that of the third.
		told(t, "Delete", h.s.Delete(files.Blob(1, 202)), api.OK)
		h.noRead(api.ErrSum, 2, 256, 1024)
		told(t, "Put", h.s.Put(files.Blob(1, 201), []byte(fill('b', 256))), api.OK)
		h.reads(2, 256, 256, fill('b', 256))
		h.noRead(api.ErrRemote, 2, 256, 1024)
		h.reads(2, 768, 1024, fill('d', 256)+fill('e', 76))
		told(t, "Put", h.s.Put(files.Blob(1, 202), []byte(fill('c', 256))), api.OK)
		told(t, "Put", h.s.Put(files.Blob(1, 200), []byte(fill('a', 256))), api.OK)
		h.reads(2, 0, 1024, fill('a', 256)+fill('b', 256)+fill('c', 256)+fill('d', 256))
	}
}

// A Write fetches the chunks of which it writes a part, up to the size that the file had, and no others.
func TestWriteFetches(t *testing.T) {
	for _, x := range []struct {
		off, n int
		wants  []int // which are fetched
	}{
		{0, 1, []int{0}}, {255, 1, []int{0}}, {1, 255, []int{0}}, {0, 255, []int{0}}, {0, 256, nil}, {0, 512, nil}, {0, 1024, nil},
		{255, 2, []int{0, 1}}, {255, 257, []int{0}}, {100, 1024, []int{0}}, {100, 900, []int{0, 3}}, {256, 300, []int{2}}, {512, 512, nil},
		// The last chunk had 76 bytes.
		{1024, 76, nil}, {1024, 77, nil}, {1024, 256, nil}, {1024, 75, []int{4}}, {1024, 1, []int{4}}, {1025, 75, []int{4}}, {1099, 1, []int{4}},
		{1100, 1, []int{4}}, {1101, 1, []int{4}}, {1279, 1, []int{4}}, {1280, 1, nil}, {1023, 77, []int{3}}, {1023, 76, []int{3, 4}}, {1023, 300, []int{3}},
		{1279, 2, []int{4}}, {5000, 1000, nil}, {1200, 1024, []int{4}}, {768, 400, nil},
	} {
		for _, blocks := range []int{6, 20} {
			h := away(t, blocks)
			all := []byte(fill('a', 256) + fill('b', 256) + fill('c', 256) + fill('d', 256) + fill('e', 76) + noughts(7092))
			copy(all[x.off:], fill('x', x.n))
			size := max(1100, x.off+x.n)
			// Those that are not to be fetched are gone, so who fetches them is told so.
			for i := range 5 {
				if !slices.Contains(x.wants, i) {
					told(t, "Delete", h.s.Delete(files.Blob(1, 200+i)), api.OK)
				}
			}
			calls := h.s.Calls()
			h.writes(2, x.off, fill('x', x.n))
			h.asked(calls, len(x.wants))
			h.sized(2, size)
			var states []int
			for i := range 32 {
				switch {
				case i >= x.off/256 && i <= (x.off+x.n-1)/256:
					states = append(states, dirty)
					if b, e := h.c.Read(2, i); b != string(all[256*i:256*(i+1)]) || e != api.OK {
						t.Errorf("Write(%d, %d): chunk %d: %.20q, %d", x.off, x.n, i, b, e)
					}
				case i < 5:
					states = append(states, absent)
				default:
					states = append(states, 0)
				}
			}
			h.there(2, states...)
		}
	}
}

// Beside an error of fetching nothing is written.
func TestWriteFetchErrors(t *testing.T) {
	h := away(t, 20)
	h.s.Script([]int{1})
	h.noWrite(api.ErrRemote, 2, 1, "x")
	h.s.Script([]int{2})
	h.noWrite(api.ErrRemote, 2, 200, fill('x', 1024))
	told(t, "Put", h.s.Put(files.Blob(1, 200), []byte(fill('A', 256))), api.OK)
	h.noWrite(api.ErrSum, 2, 1, "x")
	h.noWrite(api.ErrSum, 2, 255, "xx")
	told(t, "Delete", h.s.Delete(files.Blob(1, 203)), api.OK)
	h.noWrite(api.ErrRemote, 2, 768, "x")
	// In their order.
	h.noWrite(api.ErrSum, 2, 100, fill('x', 900))
	h.noTruncate(api.ErrRemote, 2, 1000)
	h.noTruncate(api.ErrSum, 2, 1)
	h.sized(2, 1100)
	// The first may be here, and nothing else is changed.
	if e := h.f.Write(2, 600, []byte(fill('x', 300))); e != api.ErrRemote {
		t.Error(e)
	}
	h.there(2, absent, absent, clean, absent, absent)
	h.reads(2, 512, 256, fill('c', 256))
	// Those that are written whole are not wanted.
	h.writes(2, 0, fill('x', 1024))
	h.reads(2, 0, 1024, fill('x', 1024))
	h.reads(2, 1024, 76, fill('e', 76))
}

// A Truncate that makes a file less fetches its last chunk, if something of that goes and it is there, and no other.
func TestTruncateFetches(t *testing.T) {
	for _, x := range []struct{ size, wants int }{
		{1100, -1}, {1099, 4}, {1025, 4}, {1024, -1}, {1023, 3}, {769, 3}, {768, -1}, {767, 2}, {256, -1}, {255, 0}, {1, 0}, {0, -1}, {1101, -1}, {8192, -1}, {1280, -1},
	} {
		h := away(t, 20)
		for i := range 5 {
			if i != x.wants {
				told(t, "Delete", h.s.Delete(files.Blob(1, 200+i)), api.OK)
			}
		}
		calls := h.s.Calls()
		h.cuts(2, x.size)
		states := slices.Repeat([]int{absent}, min((x.size+255)/256, 5))
		if x.wants >= 0 {
			h.asked(calls, 1)
			states[x.wants] = dirty
			want := fill(byte('a'+x.wants), x.size%256) + noughts(256-x.size%256)
			if b, e := h.c.Read(2, x.wants); b != want || e != api.OK {
				t.Errorf("Truncate to %d: %.20q, %d", x.size, b, e)
			}
		} else {
			h.asked(calls, 0)
		}
		h.there(2, states...)
	}
	// The last chunk may be a hole.
	h := built(t, 50, 20)
	h.cuts(2, 8192)
	h.cuts(2, 8000)
	h.there(2)
}

// ErrSpace is answered if there are fewer blocks than chunks to write: then nothing is changed. What was fetched on the way
// takes none of the blocks that are wanted.
func TestNoBlocks(t *testing.T) {
	all := fill('a', 256) + fill('b', 256) + fill('c', 256) + fill('d', 256) + fill('e', 76)
	for blocks := range 9 {
		for _, x := range []struct{ off, n int }{{0, 1}, {0, 256}, {255, 2}, {0, 1024}, {100, 1024}, {1024, 76}, {1280, 700}} {
			h := away(t, blocks)
			if chunks := (x.off+x.n-1)/256 - x.off/256 + 1; chunks > blocks {
				h.noWrite(api.ErrSpace, 2, x.off, fill('x', x.n))
				h.sized(2, 1100)
				h.reads(2, 0, 1024, all[:1024])
				h.reads(2, 1024, 1024, all[1024:])
				continue
			}
			h.writes(2, x.off, fill('x', x.n))
			h.reads(2, x.off, x.n, fill('x', x.n))
		}
		h := away(t, blocks)
		if blocks == 0 {
			h.noTruncate(api.ErrSpace, 2, 1099)
			h.noTruncate(api.ErrSpace, 2, 1)
		} else {
			h.cuts(2, 1099)
			h.reads(2, 1024, 1024, fill('e', 75))
		}
		// What writes no chunk needs no block.
		h.cuts(2, 1024)
		h.cuts(2, 8192)
		h.cuts(2, 256)
		h.there(2, absent)
		h.reads(2, 0, 1024, fill('a', 256))
	}
}

// A house whose blocks are all given back has none that is free, till they are settled.
func TestNoBlocksAhead(t *testing.T) {
	h := built(t, 50, 3)
	h.writes(2, 0, fill('a', 600))
	h.noWrite(api.ErrSpace, 2, 0, "b")
	h.noWrite(api.ErrSpace, 2, 1000, "b")
	h.noTruncate(api.ErrSpace, 2, 1)
	h.cuts(2, 512)
	h.noWrite(api.ErrSpace, 2, 0, "b")
	h.c.Settle()
	h.writes(2, 0, "b")
	h.noWrite(api.ErrSpace, 2, 0, "c")
	h.reads(2, 0, 1024, "b"+fill('a', 511))
}
