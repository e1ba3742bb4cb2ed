package chunk_test

import (
	"maps"
	"strconv"
	"testing"

	"cistern/api"
	"cistern/chunk"
)

// wide has chunks that stand in many pages, and all of these in their places, so that each may be torn and mended.
func wide(t *testing.T) *yard {
	t.Helper()
	y := ground(t, 90, 150)
	for ino := 1; ino <= 4; ino++ {
		for index := range api.MaxChunks {
			y.writes(ino, index, fill(byte(ino*index)))
			if ino > 1 {
				y.goes(ino, index, ino, index)
			}
			if ino > 2 {
				y.evicts(ino, index)
			}
		}
	}
	told(t, "Commit", y.s.Commit(), api.OK)
	told(t, "Checkpoint", y.s.Checkpoint(), api.OK)
	y.settles(2 * api.MaxChunks)
	return y
}

// tear makes a sector unreadable; the answer mends it.
func (y *yard) tear(sector int) func() {
	y.t.Helper()
	b, e := y.d.Read(sector)
	told(y.t, "Read", e, api.OK)
	told(y.t, "Flush", y.d.Flush(), api.OK)
	told(y.t, "Write", y.d.Write(sector, make([]byte, api.Sector)), api.OK)
	y.d.Crash([]int{2})
	return func() {
		y.t.Helper()
		told(y.t, "Write", y.d.Write(sector, b), api.OK)
		told(y.t, "Flush", y.d.Flush(), api.OK)
	}
}

// picture tells all chunks, as another opening finds them, each with its bytes, if it is here.
func (y *yard) picture() map[chunk.Extent]string {
	y.t.Helper()
	told(y.t, "Check", y.r.Check(), api.OK)
	again, e := chunk.New(y.r, y.d, y.first(), y.blocks)
	told(y.t, "New", e, api.OK)
	all, e := again.List()
	told(y.t, "List", e, api.OK)
	l := map[chunk.Extent]string{{}: strconv.Itoa(y.c.Free())}
	for _, x := range all {
		b, e := again.Read(x.Ino, x.Index)
		if x.State == absent && e == api.ErrStale {
			e = api.OK
		}
		told(y.t, "Read", e, api.OK)
		l[x] = b
	}
	return l
}

// deeds are calls, each with an answer as a text.
func (y *yard) deeds() []func() (string, api.Errno) {
	plain := func(e api.Errno) (string, api.Errno) { return "", e }
	text := func(x chunk.Extent, e api.Errno) (string, api.Errno) {
		if x == (chunk.Extent{}) {
			return "", e
		}
		return strconv.Itoa(x.State) + " " + strconv.Itoa(x.Num), e
	}
	return []func() (string, api.Errno){
		func() (string, api.Errno) { return text(y.c.Get(2, 7)) },
		func() (string, api.Errno) { return text(y.c.Get(5, 0)) },
		func() (string, api.Errno) { return y.c.Read(2, 9) },
		func() (string, api.Errno) { return y.c.Read(3, 9) },
		func() (string, api.Errno) {
			l, e := y.c.List()
			if len(l) == 0 {
				return "", e
			}
			return strconv.Itoa(len(l)), e
		},
		func() (string, api.Errno) { return plain(y.c.Write(1, 5, fill('w'))) },
		func() (string, api.Errno) { return plain(y.c.Write(4, 5, fill('w'))) },
		func() (string, api.Errno) { return plain(y.c.Write(5, 5, fill('w'))) },
		func() (string, api.Errno) { return plain(y.c.Clean(1, 8, 9, 9)) },
		func() (string, api.Errno) { return plain(y.c.Evict(2, 8)) },
		func() (string, api.Errno) { return plain(y.c.Fill(3, 8, fill(24))) },
		func() (string, api.Errno) { return plain(y.c.Cut(1, 0)) },
		func() (string, api.Errno) { return plain(y.c.Cut(2, 20)) },
		func() (string, api.Errno) { return plain(y.c.Cut(3, 9)) },
		func() (string, api.Errno) { return plain(y.c.Cut(9, 0)) },
	}
}

// Each page is torn at each call: what can't be read is told, and nothing is done; or all is done that is to be done.
func TestTornPages(t *testing.T) {
	t.Parallel()
	y := wide(t)
	none, unread, done := y.picture(), 0, 0
	start := y.c.Mark()
	for i, deed := range y.deeds() {
		want, wanted := deed()
		changed := y.picture()
		told(t, "Back", y.c.Back(start), api.OK)
		for p := range y.s.Pages() {
			if text, _ := y.s.Get(p); text == "" {
				continue
			}
			mend := y.tear(2 + y.log() + p)
			got, e := deed()
			mend()
			switch after := y.picture(); {
			case e == api.ErrTorn:
				unread++
				if got != "" || !maps.Equal(after, none) {
					t.Errorf("call %d with page %d torn: %.9q, and something is changed", i, p, got)
				}
			case got != want || e != wanted || !maps.Equal(after, changed):
				t.Errorf("call %d with page %d torn: %.9q, %d, not %.9q, %d", i, p, got, e, want, wanted)
			default:
				done++
			}
			told(t, "Back", y.c.Back(start), api.OK)
		}
		if t.Failed() {
			t.FailNow()
		}
	}
	if unread < 100 || done < 100 {
		t.Errorf("%d calls were refused, %d were done", unread, done)
	}
}

// New of a tree of which a page can't be read tells so, and there are no chunks.
func TestTornNew(t *testing.T) {
	y := wide(t)
	refused := 0
	for p := range y.s.Pages() {
		mend := y.tear(2 + y.log() + p)
		c, e := chunk.New(y.r, y.d, y.first(), y.blocks)
		mend()
		if e == api.ErrTorn && c == nil {
			refused++
		} else if e != api.OK || c == nil {
			t.Errorf("page %d torn: %v, %d", p, c, e)
		}
	}
	if refused < 5 {
		t.Errorf("%d pages can't be left away", refused)
	}
}
