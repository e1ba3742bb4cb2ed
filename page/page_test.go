package page_test

import (
	"bytes"
	"math"
	"slices"
	"strings"
	"testing"

	"cistern/api"
	"cistern/flash"
	"cistern/page"
	"cistern/record"
)

func told(t *testing.T, what string, got, want api.Errno) {
	t.Helper()
	if got != want {
		t.Errorf("%s: %d, not %d", what, got, want)
	}
}

func device(t *testing.T, sectors int) *flash.Device {
	t.Helper()
	d, e := flash.New(sectors)
	if e != api.OK {
		t.Fatal("flash.New", e)
	}
	return d
}

func mounted(t *testing.T, d *flash.Device, log, pages int) *page.Store {
	t.Helper()
	s, e := page.Mount(d, log, pages)
	if e != api.OK || s == nil {
		t.Fatalf("Mount: %v, %d", s, e)
	}
	return s
}

// fresh is a formatted device, just so great, and its store.
func fresh(t *testing.T, log, pages int) (*flash.Device, *page.Store) {
	t.Helper()
	d := device(t, 2+log+pages)
	told(t, "Format", page.Format(d, log, pages), api.OK)
	return d, mounted(t, d, log, pages)
}

func put(t *testing.T, s *page.Store, at int, data string) {
	t.Helper()
	told(t, "Put", s.Put(at, data), api.OK)
}

func commit(t *testing.T, s *page.Store) {
	t.Helper()
	told(t, "Commit", s.Commit(), api.OK)
}

func checkpoint(t *testing.T, s *page.Store) {
	t.Helper()
	told(t, "Checkpoint", s.Checkpoint(), api.OK)
}

// holds asks for the texts of the pages from 0 on.
func holds(t *testing.T, s *page.Store, want ...string) {
	t.Helper()
	for i, w := range want {
		if got, e := s.Get(i); got != w || e != api.OK {
			t.Errorf("Get(%d): %q, %d, not %q", i, got, e, w)
		}
	}
}

// refused asks for the error of a page.
func refused(t *testing.T, s *page.Store, at int, want api.Errno) {
	t.Helper()
	if got, e := s.Get(at); got != "" || e != want {
		t.Errorf("Get(%d): %q, %d, not %d", at, got, e, want)
	}
}

func dirty(t *testing.T, s *page.Store, want int) {
	t.Helper()
	if n := s.Dirty(); n != want {
		t.Errorf("Dirty: %d, not %d", n, want)
	}
}

// lay writes a sector, so that it lasts.
func lay(t *testing.T, d *flash.Device, at int, b []byte, e api.Errno) {
	t.Helper()
	if e != api.OK {
		t.Fatal("encoding", e)
	}
	told(t, "Write", d.Write(at, b), api.OK)
	told(t, "Flush", d.Flush(), api.OK)
}

func laySuper(t *testing.T, d *flash.Device, at int, s record.Super) {
	t.Helper()
	b, e := record.EncodeSuper(s)
	lay(t, d, at, b, e)
}

func layHome(t *testing.T, d *flash.Device, at int, h record.Home) {
	t.Helper()
	b, e := record.EncodeHome(h)
	lay(t, d, at, b, e)
}

func layLog(t *testing.T, d *flash.Device, at int, l record.Log) {
	t.Helper()
	b, e := record.EncodeLog(l)
	lay(t, d, at, b, e)
}

// tear makes a sector unreadable.
func tear(t *testing.T, d *flash.Device, at int) {
	t.Helper()
	told(t, "Write", d.Write(at, make([]byte, api.Sector)), api.OK)
	d.Crash([]int{2})
}

func super(t *testing.T, d *flash.Device, at int, want record.Super) {
	t.Helper()
	b, e := d.Read(at)
	told(t, "Read", e, api.OK)
	if s, e := record.DecodeSuper(b); s != want || e != api.OK {
		t.Errorf("super record in %d: %v, %d, not %v", at, s, e, want)
	}
}

func noughts(t *testing.T, d *flash.Device, from, to int) {
	t.Helper()
	for at := from; at < to; at++ {
		if b, e := d.Read(at); e != api.OK || !bytes.Equal(b, make([]byte, api.Sector)) {
			t.Errorf("sector %d: %v, %d, not noughts", at, b, e)
		}
	}
}

func TestWhatIsCommittedLasts(t *testing.T) {
	d, s := fresh(t, 4, 2)
	holds(t, s, "", "")
	put(t, s, 0, "a")
	commit(t, s)
	put(t, s, 1, "b")
	holds(t, s, "a", "b")
	d.Crash(nil)
	s = mounted(t, d, 4, 2)
	holds(t, s, "a", "")
	dirty(t, s, 0)
	if s.Epoch() != 2 || s.Pages() != 2 {
		t.Error(s.Epoch(), s.Pages())
	}
}

func TestBackToAMark(t *testing.T) {
	_, s := fresh(t, 4, 2)
	put(t, s, 0, "a")
	m := s.Mark()
	put(t, s, 0, "b")
	told(t, "Back", s.Back(m), api.OK)
	holds(t, s, "a", "")
	dirty(t, s, 1)
}

func TestFormat(t *testing.T) {
	d := device(t, 20)
	for at := range 20 {
		layHome(t, d, at, record.Home{Page: at, Data: "old"})
	}
	d.Write(7, make([]byte, api.Sector))
	d.Arm(0)
	told(t, "Flush", d.Flush(), api.ErrDown)
	told(t, "Format", page.Format(d, 5, 6), api.OK)
	if d.Pending() != 0 {
		t.Error("something waits")
	}
	noughts(t, d, 0, 1)
	super(t, d, 1, record.Super{Gen: 1})
	noughts(t, d, 2, 20)
	d.Crash(nil)
	super(t, d, 1, record.Super{Gen: 1})
	for range 9 {
		told(t, "Flush", d.Flush(), api.OK)
	}
}

// sizes are the numbers that Format and Mount take or refuse, and how many sectors the device has.
func sizes() []struct {
	sectors, log, pages int
	want                api.Errno
} {
	type size = struct {
		sectors, log, pages int
		want                api.Errno
	}
	return []size{
		{7, 4, 1, api.OK},
		{8, 4, 1, api.OK},
		{6, 4, 1, api.ErrArg},
		{7, 4, 2, api.ErrArg},
		{7, 5, 1, api.ErrArg},
		{4096, 3, 1, api.ErrArg},
		{4096, 4, 0, api.ErrArg},
		{4096, 4, -1, api.ErrArg},
		{4096, -1, 4, api.ErrArg},
		{4096, 1000, 3000, api.OK},
		{4002, 1000, 3000, api.OK},
		{4001, 1000, 3000, api.ErrArg},
		{4096, 1001, 3000, api.ErrArg},
		{4096, 1000, 3001, api.ErrArg},
		{4096, math.MaxInt, 1, api.ErrArg},
		{4096, 4, math.MaxInt, api.ErrArg},
		{4096, math.MaxInt, math.MaxInt, api.ErrArg},
		{4096, math.MinInt, math.MinInt, api.ErrArg},
		{1, 4, 1, api.ErrArg},
	}
}

func TestSizes(t *testing.T) {
	for _, x := range sizes() {
		d := device(t, x.sectors)
		// A refusal leaves the device as it was, with its power off.
		layHome(t, d, 0, record.Home{Page: 3})
		d.Arm(0)
		d.Flush()
		told(t, "Format", page.Format(d, x.log, x.pages), x.want)
		if x.want != api.OK {
			if s, e := page.Mount(d, x.log, x.pages); s != nil || e != api.ErrArg {
				t.Errorf("Mount ahead of a power that is off: %v, %d", s, e)
			}
			told(t, "Flush", d.Flush(), api.ErrDown)
			d.Crash(nil)
			laySuper(t, d, 0, record.Super{Gen: 1})
			if s, e := page.Mount(d, x.log, x.pages); s != nil || e != api.ErrArg {
				t.Errorf("Mount(%d, %d) of %d: %v, %d", x.log, x.pages, x.sectors, s, e)
			}
			super(t, d, 0, record.Super{Gen: 1})
			continue
		}
		s := mounted(t, d, x.log, x.pages)
		if s.Pages() != x.pages || s.Epoch() != 1 {
			t.Error(s.Pages(), s.Epoch())
		}
		holds(t, s, "")
		put(t, s, x.pages-1, "end")
		commit(t, s)
		checkpoint(t, s)
		if got, e := s.Get(x.pages - 1); got != "end" || e != api.OK {
			t.Errorf("the last page: %q, %d", got, e)
		}
	}
	told(t, "Format(nil)", page.Format(nil, 4, 1), api.ErrArg)
	if s, e := page.Mount(nil, 4, 1); s != nil || e != api.ErrArg {
		t.Errorf("Mount(nil): %v, %d", s, e)
	}
	told(t, "Format of no device", page.Format(&flash.Device{}, 4, 1), api.ErrArg)
	if s, e := page.Mount(&flash.Device{}, 4, 1); s != nil || e != api.ErrArg {
		t.Errorf("Mount of no device: %v, %d", s, e)
	}
}

func TestMountWritesASuperRecord(t *testing.T) {
	d := device(t, 8)
	told(t, "Format", page.Format(d, 4, 2), api.OK)
	for i := 1; i < 7; i++ {
		s := mounted(t, d, 4, 2)
		if s.Epoch() != i || d.Pending() != 0 {
			t.Error(s.Epoch(), d.Pending())
		}
		super(t, d, (i+1)%2, record.Super{Gen: i + 1, Epoch: i})
		super(t, d, i%2, record.Super{Gen: i, Epoch: i - 1})
		noughts(t, d, 2, 8)
		d.Crash(nil)
	}
}

// Which of the super records counts.
func TestWhichSuperRecord(t *testing.T) {
	const most = 1 << 49
	none := record.Super{Gen: -1}
	for _, x := range []struct {
		zero, one record.Super
		epoch     int // -1: ErrForm
		at        int
		want      record.Super
	}{
		{record.Super{Gen: 4, Epoch: 9, Tail: 5}, none, 10, 1, record.Super{Gen: 5, Epoch: 10, Tail: 5}},
		{none, record.Super{Gen: 4, Epoch: 9, Tail: 5}, 10, 1, record.Super{Gen: 5, Epoch: 10, Tail: 5}},
		{record.Super{Gen: 4, Epoch: 9}, record.Super{Gen: 3, Epoch: 30}, 10, 1, record.Super{Gen: 5, Epoch: 10}},
		{record.Super{Gen: 4, Epoch: 9}, record.Super{Gen: 5, Epoch: 3}, 4, 0, record.Super{Gen: 6, Epoch: 4}},
		{record.Super{Gen: 4, Epoch: 9}, record.Super{Gen: 4, Epoch: 30}, 10, 1, record.Super{Gen: 5, Epoch: 10}},
		{record.Super{}, record.Super{Epoch: 30}, 1, 1, record.Super{Gen: 1, Epoch: 1}},
		{none, record.Super{}, 1, 1, record.Super{Gen: 1, Epoch: 1}},
		{none, none, -1, 0, none},
		{record.Super{Gen: most, Epoch: most, Tail: most}, none, most + 1, 1, record.Super{Gen: most + 1, Epoch: most + 1, Tail: most}},
		{record.Super{Gen: most + 1}, none, -1, 0, none},
		{record.Super{Gen: 1, Epoch: most + 1}, none, -1, 0, none},
		{record.Super{Gen: 1, Tail: most + 1}, none, -1, 0, none},
		{record.Super{Gen: math.MaxInt, Epoch: math.MaxInt, Tail: math.MaxInt}, none, -1, 0, none},
		{record.Super{Gen: 1}, record.Super{Gen: most + 1}, -1, 0, none},
		{record.Super{Gen: 2}, record.Super{Gen: 1, Tail: most + 1}, 1, 1, record.Super{Gen: 3, Epoch: 1}},
	} {
		for _, torn := range []bool{false, true} {
			d := device(t, 8)
			for at, s := range []record.Super{x.zero, x.one} {
				if s != none {
					laySuper(t, d, at, s)
				} else if torn {
					tear(t, d, at)
				}
			}
			s, e := page.Mount(d, 4, 2)
			if x.epoch < 0 {
				if s != nil || e != api.ErrForm {
					t.Errorf("Mount of %v, %v: %v, %d", x.zero, x.one, s, e)
				}
				continue
			}
			if e != api.OK || s.Epoch() != x.epoch {
				t.Fatalf("Mount of %v, %v: %d", x.zero, x.one, e)
			}
			super(t, d, x.at, x.want)
		}
	}
}

// Sectors that aren't those of super records don't count: neither another record nor one with a turned bit.
func TestNoSuperRecord(t *testing.T) {
	d := device(t, 8)
	layHome(t, d, 0, record.Home{Page: 0})
	b, _ := record.EncodeSuper(record.Super{Gen: 7})
	b[9] ^= 1
	lay(t, d, 1, b, api.OK)
	if s, e := page.Mount(d, 4, 2); s != nil || e != api.ErrForm {
		t.Errorf("Mount: %v, %d", s, e)
	}
	// Nothing is written then, so that an armed device keeps its power.
	d.Arm(0)
	if s, e := page.Mount(d, 4, 2); s != nil || e != api.ErrForm {
		t.Errorf("Mount of an armed one: %v, %d", s, e)
	}
	if got, e := d.Read(1); e != api.OK || !bytes.Equal(got, b) {
		t.Error("the sector was changed", e)
	}
	told(t, "Flush", d.Flush(), api.ErrDown)
	if s, e := page.Mount(d, 4, 2); s != nil || e != api.ErrDown {
		t.Errorf("Mount with the power off: %v, %d", s, e)
	}
}

// The power goes off while it is mounted: at the write, or at the flush.
func TestMountCutShort(t *testing.T) {
	for n := range 2 {
		for _, pick := range []int{0, 1, 2} {
			d, s := fresh(t, 4, 2)
			put(t, s, 1, "x")
			commit(t, s)
			d.Arm(n)
			if s, e := page.Mount(d, 4, 2); s != nil || e != api.ErrDown {
				t.Errorf("Mount: %v, %d", s, e)
			}
			d.Crash([]int{pick})
			s = mounted(t, d, 4, 2)
			holds(t, s, "", "x")
			want := 2
			if n == 1 && pick == 1 {
				want = 3
			}
			if s.Epoch() != want {
				t.Errorf("Epoch: %d, not %d", s.Epoch(), want)
			}
		}
	}
}

// A later image comes in the place of an earlier one, and all are looked for from the tail on.
func TestMountReadsTheLog(t *testing.T) {
	d := device(t, 12)
	laySuper(t, d, 1, record.Super{Gen: 5, Epoch: 3, Tail: 6})
	for i, r := range []record.Log{
		{Kind: 1, Epoch: 2, Seq: 6, Tx: 6, Index: 0, Count: 3, Page: 1, Data: "b"},
		{Kind: 1, Epoch: 2, Seq: 7, Tx: 6, Index: 1, Count: 3, Page: 0, Data: "a"},
		{Kind: 1, Epoch: 2, Seq: 8, Tx: 6, Index: 2, Count: 3, Page: 1, Data: "c"},
		{Kind: 2, Epoch: 2, Seq: 9, Tx: 6, Index: 3, Count: 3},
		{Kind: 1, Epoch: 3, Seq: 10, Tx: 10, Index: 0, Count: 1, Page: 0, Data: "d"},
		{Kind: 2, Epoch: 3, Seq: 11, Tx: 10, Index: 1, Count: 1},
	} {
		layLog(t, d, 2+(6+i)%7, r)
	}
	layHome(t, d, 9+2, record.Home{Page: 2, Data: "e"})
	s := mounted(t, d, 7, 3)
	holds(t, s, "d", "c", "e")
	dirty(t, s, 0)
	super(t, d, 0, record.Super{Gen: 6, Epoch: 4, Tail: 6})
	noughts(t, d, 9, 11)

	checkpoint(t, s)
	super(t, d, 1, record.Super{Gen: 7, Epoch: 4, Tail: 12})
	s = mounted(t, d, 7, 3)
	holds(t, s, "d", "c", "e")
	super(t, d, 0, record.Super{Gen: 8, Epoch: 5, Tail: 12})
}

// A log may tell of pages that a smaller store hasn't: they are no pages of it.
func TestMountWithFewerPages(t *testing.T) {
	d, s := fresh(t, 6, 4)
	put(t, s, 0, "a")
	put(t, s, 3, "b")
	commit(t, s)
	s = mounted(t, d, 6, 2)
	holds(t, s, "a", "")
	refused(t, s, 3, api.ErrArg)
	checkpoint(t, s)
	holds(t, s, "a", "")
	noughts(t, d, 8+3, 8+4)
}

func TestGetOfWhatStandsInItsPlace(t *testing.T) {
	d, s := fresh(t, 4, 6)
	layHome(t, d, 6+0, record.Home{Page: 0, Data: "a"})
	layHome(t, d, 6+1, record.Home{Page: 0, Data: "a"})
	laySuper(t, d, 6+2, record.Super{})
	b, _ := record.EncodeHome(record.Home{Page: 3, Data: "b"})
	b[12] ^= 4
	lay(t, d, 6+3, b, api.OK)
	layHome(t, d, 6+4, record.Home{Page: 4})
	tear(t, d, 6+5)
	holds(t, s, "a")
	refused(t, s, 1, api.ErrForm)
	refused(t, s, 2, api.ErrForm)
	refused(t, s, 3, api.ErrSum)
	refused(t, s, 4, api.OK)
	refused(t, s, 5, api.ErrTorn)

	d.Arm(0)
	d.Flush()
	for at := range 6 {
		refused(t, s, at, api.ErrDown)
	}
	refused(t, s, 6, api.ErrArg)
}

// What waits, and what lasts by the log, is told even if the place can't be read.
func TestGetOfWhatIsInMemory(t *testing.T) {
	d, s := fresh(t, 4, 3)
	for at := range 3 {
		tear(t, d, 6+at)
	}
	put(t, s, 0, "a")
	commit(t, s)
	put(t, s, 1, "b")
	d.Arm(0)
	d.Flush()
	holds(t, s, "a", "b")
	refused(t, s, 2, api.ErrDown)
	d.Crash(nil)
	s = mounted(t, d, 4, 3)
	holds(t, s, "a")
	refused(t, s, 1, api.ErrTorn)
	checkpoint(t, s)
	holds(t, s, "a")
	d.Arm(0)
	d.Flush()
	refused(t, s, 0, api.ErrDown)
}

// A page that was put is empty as it was, or by an empty text.
func TestEmptyTexts(t *testing.T) {
	d, s := fresh(t, 4, 2)
	put(t, s, 0, "")
	dirty(t, s, 1)
	put(t, s, 1, "x")
	commit(t, s)
	put(t, s, 1, "")
	holds(t, s, "", "")
	commit(t, s)
	holds(t, s, "", "")
	checkpoint(t, s)
	holds(t, s, "", "")
	b, _ := d.Read(6)
	if h, e := record.DecodeHome(b); e != api.OK || h != (record.Home{}) {
		t.Errorf("in its place: %v, %d", h, e)
	}
}

func TestPutRefuses(t *testing.T) {
	_, s := fresh(t, 4, 3)
	long := strings.Repeat("\xff", api.MaxPage)
	for _, at := range []int{-1, 3, math.MaxInt, math.MinInt} {
		told(t, "Put", s.Put(at, "x"), api.ErrArg)
		told(t, "Put", s.Put(at, long+"x"), api.ErrArg)
		refused(t, s, at, api.ErrArg)
	}
	told(t, "Put", s.Put(2, long+"x"), api.ErrBig)
	dirty(t, s, 0)
	holds(t, s, "", "", "")
	put(t, s, 2, long)
	told(t, "Put", s.Put(2, long+"x"), api.ErrBig)
	dirty(t, s, 1)
	holds(t, s, "", "", long)
	commit(t, s)
	holds(t, s, "", "", long)
	checkpoint(t, s)
	holds(t, s, "", "", long)
}

func TestDirty(t *testing.T) {
	_, s := fresh(t, 8, 5)
	put(t, s, 4, "a")
	put(t, s, 4, "b")
	dirty(t, s, 1)
	put(t, s, 0, "a")
	dirty(t, s, 2)
	commit(t, s)
	dirty(t, s, 0)
	put(t, s, 4, "b")
	dirty(t, s, 1)
	checkpoint(t, s)
	dirty(t, s, 1)
}

func TestMarks(t *testing.T) {
	_, s := fresh(t, 8, 4)
	put(t, s, 0, "old")
	commit(t, s)
	none := s.Mark()
	put(t, s, 0, "a")
	put(t, s, 1, "b")
	first := s.Mark()
	put(t, s, 1, "c")
	put(t, s, 2, "d")
	second := s.Mark()
	put(t, s, 3, "e")

	told(t, "Back", s.Back(first), api.OK)
	holds(t, s, "a", "b", "", "")
	dirty(t, s, 2)
	put(t, s, 0, "z")
	put(t, s, 3, "y")
	// A mark stays as it was, whatever is put behind it.
	told(t, "Back", s.Back(first), api.OK)
	holds(t, s, "a", "b", "", "")
	told(t, "Back", s.Back(second), api.OK)
	holds(t, s, "a", "c", "d", "")
	dirty(t, s, 3)
	told(t, "Back", s.Back(none), api.OK)
	holds(t, s, "old", "", "", "")
	dirty(t, s, 0)

	// With nothing waiting a commit leaves all marks, and so does a checkpoint.
	commit(t, s)
	checkpoint(t, s)
	told(t, "Back", s.Back(second), api.OK)
	holds(t, s, "a", "c", "d", "")
	commit(t, s)
	for _, m := range []*page.Mark{none, first, second} {
		told(t, "Back", s.Back(m), api.ErrArg)
	}
	holds(t, s, "a", "c", "d", "")
	m := s.Mark()
	put(t, s, 0, "q")
	told(t, "Back", s.Back(m), api.OK)
	dirty(t, s, 0)
	holds(t, s, "a", "c", "d", "")
}

func TestMarksOfOthers(t *testing.T) {
	d, s := fresh(t, 4, 2)
	_, other := fresh(t, 4, 2)
	put(t, s, 0, "a")
	put(t, other, 0, "b")
	told(t, "Back(nil)", s.Back(nil), api.ErrArg)
	told(t, "Back of another store's", s.Back(other.Mark()), api.ErrArg)
	told(t, "Back of no store's", s.Back(&page.Mark{}), api.ErrArg)
	holds(t, s, "a", "")
	m := s.Mark()
	anew := mounted(t, d, 4, 2)
	told(t, "Back of the older one's", anew.Back(m), api.ErrArg)
	told(t, "Back of the newer one's", s.Back(anew.Mark()), api.ErrArg)
	told(t, "Back", s.Back(m), api.OK)
	dirty(t, s, 1)
	dirty(t, anew, 0)
}

// A commit that failed leaves the marks, and what waits.
func TestMarksBehindAFailedCommit(t *testing.T) {
	d, s := fresh(t, 4, 5)
	put(t, s, 0, "a")
	m := s.Mark()
	for at := range 4 {
		put(t, s, at, "b")
	}
	told(t, "Commit", s.Commit(), api.ErrSpace)
	dirty(t, s, 4)
	told(t, "Back", s.Back(m), api.OK)
	holds(t, s, "a", "", "", "")
	for n := range 4 {
		d.Arm(n)
		told(t, "Commit", s.Commit(), api.ErrDown)
		dirty(t, s, 1)
		told(t, "Back", s.Back(m), api.OK)
		holds(t, s, "a")
		d.Crash(nil)
	}
}

func TestCommitTakesWhatTheLogHas(t *testing.T) {
	d, s := fresh(t, 4, 6)
	for at := range 3 {
		put(t, s, at, "a")
	}
	commit(t, s)
	for at := range 4 {
		put(t, s, 5-at, "b")
	}
	// Too much is said ahead of a power that is off, and nothing is done.
	d.Arm(0)
	told(t, "Commit", s.Commit(), api.ErrSpace)
	d.Flush()
	told(t, "Commit", s.Commit(), api.ErrSpace)
	dirty(t, s, 4)
	holds(t, s, "a", "a", "b", "b", "b", "b")
	d.Crash(nil)
	s = mounted(t, d, 4, 6)
	holds(t, s, "a", "a", "a", "", "", "")
}

// With nothing waiting a commit is a flush alone, and a checkpoint with nothing in the log is nothing.
func TestNothingToDo(t *testing.T) {
	d, s := fresh(t, 4, 2)
	lasts := bytes.Repeat([]byte{7}, api.Sector)
	told(t, "Write", d.Write(7, lasts), api.OK)
	told(t, "Checkpoint", s.Checkpoint(), api.OK)
	if d.Pending() != 1 {
		t.Error("a checkpoint flushed")
	}
	d.Arm(1)
	commit(t, s)
	if d.Pending() != 0 {
		t.Error("a commit didn't flush")
	}
	told(t, "Commit", s.Commit(), api.ErrDown)
	checkpoint(t, s)
	told(t, "Flush", d.Flush(), api.ErrDown)
	d.Crash(nil)
	super(t, d, 0, record.Super{Gen: 2, Epoch: 1})
	noughts(t, d, 2, 7)
}

func TestNilStore(t *testing.T) {
	var s *page.Store
	_, other := fresh(t, 4, 1)
	if s.Epoch() != 0 || s.Pages() != 0 || s.Dirty() != 0 || s.Mark() != nil {
		t.Error("a nil one has something")
	}
	if got, e := s.Get(0); got != "" || e != api.ErrArg {
		t.Errorf("Get: %q, %d", got, e)
	}
	told(t, "Put", s.Put(0, "a"), api.ErrArg)
	told(t, "Put", s.Put(0, strings.Repeat("a", 161)), api.ErrArg)
	for _, m := range []*page.Mark{nil, {}, other.Mark()} {
		told(t, "Back", s.Back(m), api.ErrArg)
	}
	told(t, "Commit", s.Commit(), api.ErrArg)
	told(t, "Checkpoint", s.Checkpoint(), api.ErrArg)
}

// One that Mount didn't make has no pages.
func TestStoreWithoutMount(t *testing.T) {
	s := &page.Store{}
	refused(t, s, 0, api.ErrArg)
	told(t, "Put", s.Put(0, "a"), api.ErrArg)
	told(t, "Back", s.Back(s.Mark()), api.OK)
	told(t, "Put", s.Put(0, "a"), api.ErrArg)
	told(t, "Commit", s.Commit(), api.ErrArg)
	checkpoint(t, s)
	if s.Epoch() != 0 || s.Pages() != 0 || s.Dirty() != 0 {
		t.Error("it has something")
	}
}

// Two stores on two devices share nothing.
func TestTwoStores(t *testing.T) {
	_, a := fresh(t, 4, 2)
	_, b := fresh(t, 4, 2)
	put(t, a, 0, "a")
	put(t, b, 0, "b")
	commit(t, a)
	holds(t, a, "a", "")
	holds(t, b, "b", "")
	dirty(t, a, 0)
	dirty(t, b, 1)
}

// sectors tells all that can be read of a device.
func sectors(d *flash.Device) []string {
	var l []string
	for at := range d.Size() {
		b, e := d.Read(at)
		l = append(l, string(b)+string(rune('a'+int(e))))
	}
	return l
}

// Calls that only ask, and those that refuse, write nothing and flush nothing.
func TestAskingWritesNothing(t *testing.T) {
	d, s := fresh(t, 4, 3)
	put(t, s, 0, "a")
	commit(t, s)
	told(t, "Write", d.Write(8, make([]byte, api.Sector)), api.OK)
	before := sectors(d)
	holds(t, s, "a", "", "")
	put(t, s, 1, "b")
	m := s.Mark()
	put(t, s, 1, "c")
	told(t, "Back", s.Back(m), api.OK)
	told(t, "Put", s.Put(9, "c"), api.ErrArg)
	s.Put(0, "1")
	s.Put(2, "2")
	if s.Dirty() != 3 || s.Epoch() != 1 || s.Pages() != 3 {
		t.Error("numbers")
	}
	if d.Pending() != 1 || !slices.Equal(sectors(d), before) {
		t.Error("something was written")
	}
}
