package files_test

import (
	"maps"
	"strconv"
	"testing"

	"cistern/api"
	"cistern/chunk"
)

// wide has files whose chunks stand in many pages, and all of these in their places, so that each may be torn and mended.
func wide(t *testing.T) *house {
	t.Helper()
	h := built(t, 120, 200)
	h.made("/g", file, 4)
	for i := range 20 {
		h.made("/d/"+strconv.Itoa(i), file, 5+i)
	}
	for _, ino := range []int{2, 4, 9} {
		for i := range 7 {
			h.writes(ino, 1000*i, fill(byte('a'+i+ino), 1000))
		}
		for i := range 25 {
			if i%3 > 0 {
				h.puts(ino, i)
			}
			if i%3 > 1 {
				told(t, "Evict", h.c.Evict(ino, i), api.OK)
			}
		}
	}
	told(t, "Commit", h.p.Commit(), api.OK)
	told(t, "Checkpoint", h.p.Checkpoint(), api.OK)
	h.c.Settle()
	return h
}

// tear makes a page unreadable; the answer mends it.
func (h *house) tear(page int) func() {
	h.t.Helper()
	sector := 2 + h.log() + page
	b, e := h.d.Read(sector)
	told(h.t, "Read", e, api.OK)
	told(h.t, "Flush", h.d.Flush(), api.OK)
	told(h.t, "Write", h.d.Write(sector, make([]byte, api.Sector)), api.OK)
	h.d.Crash([]int{2})
	return func() {
		h.t.Helper()
		told(h.t, "Write", h.d.Write(sector, b), api.OK)
		told(h.t, "Flush", h.d.Flush(), api.OK)
	}
}

// picture tells all chunks with their bytes, if they are here, and all sizes. What was fetched stands as if it weren't.
func (h *house) picture() map[chunk.Extent]string {
	h.t.Helper()
	told(h.t, "Check", h.r.Check(), api.OK)
	l := map[chunk.Extent]string{}
	for _, x := range h.listed() {
		b, e := h.c.Read(x.Ino, x.Index)
		if x.State != dirty {
			x.State, b = absent, ""
		} else {
			told(h.t, "chunk.Read", e, api.OK)
		}
		l[x] = b
	}
	for ino := 1; ino < 30; ino++ {
		i, _ := h.n.Info(ino)
		l[chunk.Extent{Ino: -ino}] = strconv.Itoa(i.Size)
	}
	return l
}

// deeds are calls, each with an answer as a text.
func (h *house) deeds() []func() (string, api.Errno) {
	read := func(ino, off, n int) func() (string, api.Errno) {
		return func() (string, api.Errno) { b, e := h.f.Read(ino, off, n); return string(b), e }
	}
	write := func(ino, off, n int) func() (string, api.Errno) {
		return func() (string, api.Errno) { return "", h.f.Write(ino, off, []byte(fill('W', n))) }
	}
	truncate := func(ino, size int) func() (string, api.Errno) {
		return func() (string, api.Errno) { return "", h.f.Truncate(ino, size) }
	}
	return []func() (string, api.Errno){
		read(2, 0, 1024), read(4, 5000, 1024), read(9, 6999, 1024), read(5, 0, 9), write(2, 100, 1024), write(4, 6900, 500), write(9, 3000, 10),
		write(5, 0, 1024), write(20, 8000, 192), truncate(2, 1), truncate(2, 5000), truncate(4, 700), truncate(9, 256), truncate(4, 0),
		truncate(9, 8000), truncate(2, 7000), func() (string, api.Errno) { return "", h.f.Remove(4) },
	}
}

// Each page is torn at each call: what can't be read is told, and no byte and no size is changed; or all is done.
func TestTornPages(t *testing.T) {
	t.Parallel()
	h := wide(t)
	none, unread, done := h.picture(), 0, 0
	start := h.c.Mark()
	for i, deed := range h.deeds() {
		want, wanted := deed()
		changed := h.picture()
		told(t, "Back", h.c.Back(start), api.OK)
		for p := range h.p.Pages() {
			if text, _ := h.p.Get(p); text == "" {
				continue
			}
			mend := h.tear(p)
			got, e := deed()
			mend()
			switch after := h.picture(); {
			case e == api.ErrTorn:
				unread++
				if got != "" || !maps.Equal(after, none) {
					t.Errorf("call %d with page %d torn: %.9q, and something is changed", i, p, got)
				}
			case got != want || e != wanted || !maps.Equal(after, changed):
				t.Errorf("call %d with page %d torn: %.9q, %d, not %.9q, %d", i, p, got, e, want, wanted)
			default:
				done++
			}
			told(t, "Back", h.c.Back(start), api.OK)
		}
		if t.Failed() {
			t.FailNow()
		}
	}
	if unread < 100 || done < 100 {
		t.Errorf("%d calls were refused, %d were done", unread, done)
	}
}

// A block that can't be read, or holds something else, is told where its bytes are wanted, and nowhere else.
func TestTornBlocks(t *testing.T) {
	for _, want := range []api.Errno{api.ErrTorn, api.ErrSum} {
		h := built(t, 50, 8)
		h.writes(2, 0, fill('a', 600))
		told(t, "Flush", h.d.Flush(), api.OK)
		for i := range 3 {
			told(t, "Write", h.d.Write(2+h.log()+50+i, make([]byte, api.Sector)), api.OK)
		}
		if want == api.ErrTorn {
			h.d.Crash([]int{2, 2, 2})
		}
		before, sums := h.listed(), h.c.Free()
		for _, do := range []func() api.Errno{
			func() api.Errno { b, e := h.f.Read(2, 100, 9); told(t, "no bytes", api.Errno(len(b)), 0); return e },
			func() api.Errno { return h.f.Write(2, 1, []byte("x")) },
			func() api.Errno { return h.f.Write(2, 599, []byte("x")) },
			func() api.Errno { return h.f.Truncate(2, 599) },
			func() api.Errno { return h.f.Truncate(2, 1) },
		} {
			told(t, "what can't be read", do(), want)
			h.sized(2, 600)
			if l := h.listed(); len(l) != len(before) || l[0] != before[0] || l[2] != before[2] || h.c.Free() != sums {
				t.Error("something is changed")
			}
		}
		h.writes(2, 0, fill('b', 256))
		h.writes(2, 512, fill('c', 88))
		h.reads(2, 0, 256, fill('b', 256))
		h.reads(2, 512, 256, fill('c', 88))
		h.cuts(2, 512)
		h.cuts(2, 256)
		h.reads(2, 0, 1024, fill('b', 256))
	}
}
