package manifest_test

import (
	"math"
	"math/big"
	"regexp"
	"slices"
	"strconv"
	"strings"
	"testing"

	"cistern/api"
	"cistern/chunk"
	"cistern/files"
	"cistern/flash"
	"cistern/manifest"
	"cistern/names"
	"cistern/page"
	"cistern/record"
	"cistern/tree"
)

const (
	file      = 1
	directory = 2
)

const absent = 3

// The greatest numbers of a manifest's epoch, and in a name.
const (
	mostEpoch  = 1<<31 - 1
	mostNumber = 1 << 62
)

func told(t *testing.T, what string, got, want api.Errno) {
	t.Helper()
	if got != want {
		t.Errorf("%s: %d, not %d", what, got, want)
	}
}

// fill is so many bytes of one kind.
func fill(c byte, n int) string {
	return strings.Repeat(string([]byte{c}), n)
}

// home is all that a tree stands in.
type home struct {
	t             *testing.T
	d             *flash.Device
	p             *page.Store
	r             *tree.Tree
	pages, blocks int
}

// log is how many sectors the log has: all pages go into one commit, if it may be so long.
func (h *home) log() int {
	return min(max(h.pages+1, 4), 1000)
}

// bare is an empty tree in so many pages, and room for so many blocks.
func bare(t *testing.T, pages, blocks int) *home {
	t.Helper()
	h := &home{t: t, pages: pages, blocks: blocks}
	h.d, _ = flash.New(2 + h.log() + pages + blocks)
	if e := page.Format(h.d, h.log(), pages); e != api.OK {
		t.Fatal("Format", e)
	}
	h.mount()
	return h
}

// mount opens what lasts on the device.
func (h *home) mount() {
	h.t.Helper()
	var e [2]api.Errno
	h.p, e[0] = page.Mount(h.d, h.log(), h.pages)
	h.r, e[1] = tree.Open(h.p)
	if e != ([2]api.Errno{}) {
		h.t.Fatal("mount", e)
	}
}

// names are the names in the tree.
func (h *home) names() *names.Names {
	h.t.Helper()
	n, e := names.New(h.r)
	if e != api.OK {
		h.t.Fatal("names.New", e)
	}
	return n
}

// chunks are the chunks in the tree.
func (h *home) chunks() *chunk.Chunks {
	h.t.Helper()
	c, e := chunk.New(h.r, h.d, 2+h.log()+h.pages, h.blocks)
	if e != api.OK {
		h.t.Fatal("chunk.New", e)
	}
	return c
}

// puts puts a pair into the tree.
func (h *home) puts(key, val string) {
	h.t.Helper()
	if e := h.r.Put(key, val); e != api.OK {
		h.t.Fatal("Put", e)
	}
}

// pairs are all that stand in the tree.
func (h *home) pairs() []api.Pair {
	h.t.Helper()
	l, e := h.r.Range("", "", math.MaxInt)
	told(h.t, "Range", e, api.OK)
	return l
}

// exports is a manifest of the tree.
func (h *home) exports(epoch int) []byte {
	h.t.Helper()
	b, e := manifest.Export(h.r, epoch)
	if e != api.OK {
		h.t.Fatal("Export", e)
	}
	return b
}

// keeps asks that an Export is refused, and changes nothing.
func (h *home) keeps(epoch int, want api.Errno) {
	h.t.Helper()
	before, waits, room := h.pairs(), h.p.Dirty(), h.r.Room()
	if b, e := manifest.Export(h.r, epoch); b != nil || e != want {
		h.t.Errorf("Export: %d bytes, %d, not %d", len(b), e, want)
	}
	h.stands(before, waits, room)
}

// refuses asks that an Import is refused, and changes nothing.
func (h *home) refuses(b []byte, want api.Errno) {
	h.t.Helper()
	before, waits, room := h.pairs(), h.p.Dirty(), h.r.Room()
	if k, e := manifest.Import(h.r, b); k != 0 || e != want {
		h.t.Errorf("Import: %d, %d, not %d", k, e, want)
	}
	h.stands(before, waits, room)
}

// stands asks whether the tree has these pairs, and whether as many pages wait, and are free.
func (h *home) stands(l []api.Pair, waits, room int) {
	h.t.Helper()
	if !slices.Equal(h.pairs(), l) || h.p.Dirty() != waits || h.r.Room() != room {
		h.t.Errorf("%d pairs, %d pages wait, %d are free; not %d, %d, %d", len(h.pairs()), h.p.Dirty(), h.r.Room(), len(l), waits, room)
	}
	told(h.t, "Check", h.r.Check(), api.OK)
}

// imports puts a manifest into the tree.
func (h *home) imports(b []byte, epoch int) {
	h.t.Helper()
	if k, e := manifest.Import(h.r, b); k != epoch || e != api.OK {
		h.t.Errorf("Import: %d, %d, not %d", k, e, epoch)
	}
	told(h.t, "Check", h.r.Check(), api.OK)
}

// blobs asks which ones a manifest tells.
func blobs(t *testing.T, b []byte, want ...string) {
	t.Helper()
	if l, e := manifest.Blobs(b); !slices.Equal(l, want) || e != api.OK {
		t.Errorf("Blobs: %q, %d, not %q", l, e, want)
	}
}

// packed is a blob of pairs, as layer 7 has it.
func packed(t *testing.T, n int, l ...api.Pair) []byte {
	t.Helper()
	b, e := record.EncodePairs(n, l)
	if e != api.OK {
		t.Fatal("EncodePairs", e)
	}
	return b
}

func TestName(t *testing.T) {
	for _, x := range []struct {
		epoch, num int
		want       string
	}{
		{3, 17, "m-3-17"},
		{0, 0, "m-0-0"},
		{10, 900, "m-10-900"},
		{mostNumber, 1, "m-4611686018427387904-1"},
		{1, math.MaxInt, "m-1-9223372036854775807"},
		{-1, 1, ""},
		{1, -1, ""},
		{math.MinInt, math.MinInt, ""},
	} {
		if s := manifest.Name(x.epoch, x.num); s != x.want {
			t.Errorf("Name(%d, %d): %q", x.epoch, x.num, s)
		}
	}
}

func TestEpoch(t *testing.T) {
	numbers := []int{0, 1, 9, 10, 99, 100, 101, 17, 1<<31 - 1, 1 << 31, 1<<62 - 1, mostNumber}
	for _, epoch := range numbers {
		for _, num := range numbers {
			for _, s := range []string{manifest.Name(epoch, num), files.Blob(epoch, num)} {
				if k, e := manifest.Epoch(s); k != epoch || e != api.OK {
					t.Errorf("Epoch(%q): %d, %d", s, k, e)
				}
			}
		}
	}
	for _, s := range []string{
		"", "-", "--", "m", "m-", "m--", "m-3", "m-3-", "m--3", "m-3-1-", "m-3-1-1", "-3-1", "m3-1", "m-31", "m--3-1", "m-3--1",
		"m-03-1", "m-3-01", "m-00-1", "m-3-00", "c-03-1", "c-3-01", "x-3-1", "M-3-1", "C-3-1", "mm-3-1", "m-+3-1", "m-3-+1", "m- 3-1", "m-3-1 ",
		" m-3-1", "m-3_0-1", "m-0x3-1", "m-3-1\n", "m-a-1", "m-3-a", "m-3.0-1", "m_3_1", "m-3-1\x00", "m-\u0663-1", "c", "c-", "c-3", "c--", "c-3-", "-",
		"m-4611686018427387905-1", "m-1-4611686018427387905", "c-4611686018427387905-1", "c-1-4611686018427387905",
		"m-9223372036854775808-1", "m-1-9223372036854775808", "m-18446744073709551617-1", "c-1-" + fill('9', 1000), fill('-', 1000), fill('m', 1000),
	} {
		if k, e := manifest.Epoch(s); k != 0 || e != api.ErrName {
			t.Errorf("Epoch(%.40q): %d, %d", s, k, e)
		}
	}
}

// The names of all short texts of the letters that stand in names, and of names with one byte changed.
func TestEpochOfAny(t *testing.T) {
	form, most := regexp.MustCompile(`^[mc]-(0|[1-9][0-9]*)-(0|[1-9][0-9]*)$`), big.NewInt(mostNumber)
	taken := 0
	ask := func(s string) {
		t.Helper()
		want, wanted := 0, api.ErrName
		if l := form.FindStringSubmatch(s); l != nil {
			a, _ := new(big.Int).SetString(l[1], 10)
			b, _ := new(big.Int).SetString(l[2], 10)
			if a.Cmp(most) <= 0 && b.Cmp(most) <= 0 {
				want, wanted = int(a.Int64()), api.OK
				taken++
			}
		}
		if k, e := manifest.Epoch(s); k != want || e != wanted {
			t.Errorf("Epoch(%q): %d, %d, not %d, %d", s, k, e, want, wanted)
		}
	}
	const letters = "mc-0129+"
	var all func(s string, n int)
	all = func(s string, n int) {
		ask(s)
		if n == 0 {
			return
		}
		for _, c := range letters {
			all(s+string(c), n-1)
		}
	}
	all("", 5)
	for _, s := range []string{"m-10-20", "c-10-20", "m-4611686018427387904-4611686018427387904", "c-4611686018427387903-0"} {
		for i := range len(s) {
			for c := range 256 {
				ask(s[:i] + string([]byte{byte(c)}) + s[i+1:])
				ask(s[:i] + string([]byte{byte(c)}) + s[i:])
			}
			ask(s[:i] + s[i+1:])
		}
	}
	if taken < 200 {
		t.Errorf("only %d were names", taken)
	}
}

// The manifest is the pairs of names and chunks, the chunks' as if these were absent; no other pairs.
func TestExport(t *testing.T) {
	h := bare(t, 60, 9)
	told(t, "Export of nothing", api.Errno(len(h.exports(0))), api.Errno(len(packed(t, 0))))
	n, c := h.names(), h.chunks()
	n.Make("/f", file)
	n.Make("/d", directory)
	n.Make("/d/g", file)
	n.Link("/f", "/d/h")
	n.Resize(2, 300)
	for i, x := range []struct{ ino, index int }{{2, 0}, {2, 1}, {4, 31}, {1<<32 - 1, 0}, {3, 7}} {
		told(t, "Write", c.Write(x.ino, x.index, fill(byte('a'+i), api.Chunk)), api.OK)
		told(t, "Clean", c.Clean(x.ino, x.index, i, 10*i), api.OK)
	}
	told(t, "Evict", c.Evict(2, 1), api.OK)
	plain := h.exports(7)
	for _, k := range []string{"a", "m", "m\xff", "N", "X", "o", "w", "y", "z", "\x00", "\xff", "\xffn", "\xffx"} {
		h.puts(k, "other")
	}
	if string(h.exports(7)) != string(plain) {
		t.Error("other pairs stand in it too")
	}
	// The pairs at the very ends of what begins with n: layer 14 may put such ones.
	h.puts("n", "1")
	h.puts("n"+fill(0xff, 31), "2")
	b := h.exports(mostEpoch)
	// Now all chunks are absent indeed.
	l, _ := c.List()
	for _, x := range l {
		if x.State != absent {
			told(t, "Evict", c.Evict(x.Ino, x.Index), api.OK)
		}
	}
	var want []api.Pair
	for _, p := range h.pairs() {
		if p.Key[0] == 'n' || p.Key[0] == 'x' {
			want = append(want, p)
		}
	}
	if k, got, e := record.DecodePairs(b); k != mostEpoch || e != api.OK || !slices.Equal(got, want) {
		t.Errorf("%d, %d, %d pairs, not %d", k, e, len(got), len(want))
	}
	if string(h.exports(mostEpoch)) != string(b) {
		t.Error("absent chunks make another manifest than clean ones")
	}
	blobs(t, b, "c-0-0", "c-1-10", "c-4-40", "c-2-20", "c-3-30")
	blobs(t, plain, "c-0-0", "c-1-10", "c-4-40", "c-2-20", "c-3-30")
}

// A tree has one manifest, in whatever order its pairs were put, and in whichever pages they stand.
func TestSameTree(t *testing.T) {
	h := bare(t, 200, 30)
	n, c := h.names(), h.chunks()
	for i := range 20 {
		n.Make("/f"+strconv.Itoa(i), file)
		told(t, "Write", c.Write(2+i, i, fill(byte(i), api.Chunk)), api.OK)
		told(t, "Clean", c.Clean(2+i, i, 3, i), api.OK)
	}
	b, l := h.exports(3), h.pairs()
	o := bare(t, 200, 30)
	for i := range l {
		x := l[i*37%len(l)]
		if len(l)%37 == 0 {
			t.Fatal("not all pairs")
		}
		o.puts(x.Key, x.Val)
	}
	if string(o.exports(3)) != string(b) {
		t.Error("another manifest of the same pairs")
	}
	told(t, "Commit", o.p.Commit(), api.OK)
	told(t, "Checkpoint", o.p.Checkpoint(), api.OK)
	o.d.Crash(nil)
	o.mount()
	if string(o.exports(3)) != string(b) || string(o.exports(4)) == string(b) {
		t.Error("another manifest behind a crash, or the same of another epoch")
	}
}

func TestExportRefuses(t *testing.T) {
	h := bare(t, 60, 9)
	c := h.chunks()
	for _, epoch := range []int{-1, math.MinInt, mostEpoch + 1, math.MaxInt} {
		h.keeps(epoch, api.ErrArg)
	}
	if b, e := manifest.Export(nil, 1); b != nil || e != api.ErrArg {
		t.Error(b, e)
	}
	if b, e := manifest.Export(&tree.Tree{}, 1); b != nil || e != api.ErrArg {
		t.Error(b, e)
	}
	// A dirty chunk, at the front, in the middle, and at the end.
	for i := range 3 {
		told(t, "Write", c.Write(2, i, fill('a', api.Chunk)), api.OK)
		told(t, "Clean", c.Clean(2, i, 1, i), api.OK)
	}
	h.exports(1)
	for i := range 3 {
		told(t, "Write", c.Write(2, i, fill('b', api.Chunk)), api.OK)
		h.keeps(1, api.ErrStale)
		h.keeps(-1, api.ErrArg)
		told(t, "Clean", c.Clean(2, i, 1, i+9), api.OK)
		h.exports(1)
	}
	// What is no chunk's, ahead of the chunks and behind them; a dirty one is told ahead of that.
	for _, k := range []string{"x", "xx", "x" + fill(0xff, 31)} {
		h.puts(k, "1")
		h.keeps(1, api.ErrForm)
		told(t, "Write", c.Write(2, 1, fill('c', api.Chunk)), api.OK)
		h.keeps(1, api.ErrStale)
		told(t, "Clean", c.Clean(2, 1, 1, 1), api.OK)
		h.keeps(1, api.ErrForm)
		told(t, "Drop", h.r.Drop(k), api.OK)
		h.exports(1)
	}
}

// As many pairs as go into a blob, and one more; as many bytes, and one more.
func TestExportBig(t *testing.T) {
	h := bare(t, 900, 1)
	for i := range 1900 {
		h.puts("n"+strconv.Itoa(10000+i), "")
	}
	b := h.exports(1)
	o := bare(t, 900, 1)
	o.imports(b, 1)
	if !slices.Equal(o.pairs(), h.pairs()) {
		t.Error("other pairs")
	}
	told(t, "Write", h.chunks().Write(2, 0, fill('a', api.Chunk)), api.OK)
	h.keeps(1, api.ErrStale)
	told(t, "Clean", h.chunks().Clean(2, 0, 1, 1), api.OK)
	h.keeps(1, api.ErrBig)
	h.puts("x", "1")
	h.keeps(1, api.ErrForm)

	h = bare(t, 2500, 1)
	var l []api.Pair
	for i := range 700 {
		x := api.Pair{Key: "n" + strconv.Itoa(10000+i) + fill('k', 26), Val: fill('v', api.MaxVal)}
		more, e := record.EncodePairs(1, append(l, x))
		if e != api.OK {
			break
		}
		h.puts(x.Key, x.Val)
		l, b = append(l, x), more
	}
	if string(h.exports(1)) != string(b) {
		t.Error("another manifest of so many bytes")
	}
	h.puts("nz"+fill('z', 30), fill('v', api.MaxVal))
	h.keeps(1, api.ErrBig)
}

// What the tree says of a page that can't be read.
func TestTreeRefuses(t *testing.T) {
	h := bare(t, 60, 9)
	for i := range 30 {
		h.puts("n"+strconv.Itoa(100+i), fill('v', 40))
		h.puts("x"+strconv.Itoa(100+i), fill('v', 40))
	}
	told(t, "Commit", h.p.Commit(), api.OK)
	told(t, "Checkpoint", h.p.Checkpoint(), api.OK)
	h.keeps(1, api.ErrForm)
	// One page after the other is torn: Export says what the tree does.
	torn := 0
	for i := range h.pages {
		at := 2 + h.log() + i
		old, _ := h.d.Read(at)
		h.d.Write(at, old)
		h.d.Crash([]int{2})
		_, e1 := h.r.Range("n", "o", 99)
		_, e2 := h.r.Range("x", "y", 99)
		want := api.ErrForm
		if e1 == api.ErrTorn || e2 == api.ErrTorn {
			want = api.ErrTorn
			torn++
		}
		if b, e := manifest.Export(h.r, 1); b != nil || e != want {
			t.Error(i, len(b), e)
		}
		h.d.Write(at, old)
		h.d.Flush()
	}
	if torn < 10 {
		t.Error(torn)
	}
	h.d.Arm(0)
	h.d.Flush()
	if b, e := manifest.Export(h.r, 1); b != nil || e != api.ErrDown {
		t.Error(len(b), e)
	}
	if b, e := manifest.Export(h.r, -1); b != nil || e != api.ErrArg {
		t.Error(len(b), e)
	}
}

func TestImport(t *testing.T) {
	h := bare(t, 60, 9)
	n, c := h.names(), h.chunks()
	n.Make("/f", file)
	n.Make("/d", directory)
	n.Link("/f", "/d/g")
	n.Resize(2, 500)
	for i := range 2 {
		told(t, "Write", c.Write(2, i, fill(byte('a'+i), api.Chunk)), api.OK)
		told(t, "Clean", c.Clean(2, i, 4, 5+i), api.OK)
	}
	b := h.exports(9)
	h.refuses(b, api.ErrThere)
	o := bare(t, 60, 1)
	o.imports(b, 9)
	o.refuses(b, api.ErrThere)
	// What is imported lasts by a commit, as all does.
	told(t, "Commit", o.p.Commit(), api.OK)
	o.d.Crash(nil)
	o.mount()
	m, l := o.names(), o.chunks()
	if i, e := m.Look("/d/g"); i != 2 || e != api.OK {
		t.Error(i, e)
	}
	if x, e := m.Info(2); x != (names.Info{Ino: 2, Kind: file, Size: 500, Links: 2}) || e != api.OK {
		t.Error(x, e)
	}
	for i := range 2 {
		x, e := l.Get(2, i)
		if want, _ := c.Get(2, i); x.State != absent || x.Epoch != 4 || x.Num != 5+i || x.Sum != want.Sum || e != api.OK {
			t.Error(x, e)
		}
		told(t, "Fill", l.Fill(2, i, fill(byte('a'+i), api.Chunk)), []api.Errno{api.OK, api.ErrSpace}[i])
	}
	// Numbers go on where the tree was.
	if i, e := m.Make("/x", file); i != 4 || e != api.OK {
		t.Error(i, e)
	}
	if string(o.exports(9)) == string(b) {
		t.Error("the same manifest of another tree")
	}
	m.Unlink("/x")
	// An empty manifest is an empty tree.
	e := bare(t, 4, 1)
	e.imports(packed(t, 12), 12)
	e.imports(packed(t, math.MaxInt), math.MaxInt)
	e.stands(nil, 0, 3)
}

func TestImportRefuses(t *testing.T) {
	good := packed(t, 5, api.Pair{Key: "n1", Val: "a"}, api.Pair{Key: "x", Val: ""}, api.Pair{Key: "x1", Val: "b"})
	turned := slices.Clone(good)
	turned[len(turned)/2] ^= 1
	none, full := bare(t, 60, 1), bare(t, 60, 1)
	full.puts("a", "1")
	met := map[api.Errno]int{}
	for _, b := range [][]byte{nil, {}, turned, make([]byte, 256), good[:len(good)-1], append(slices.Clone(good), 0), good[1:]} {
		_, _, want := record.DecodePairs(b)
		met[want]++
		none.refuses(b, want)
		full.refuses(b, api.ErrThere)
		if k, e := manifest.Import(nil, b); k != 0 || e != api.ErrArg {
			t.Error(k, e)
		}
		if l, e := manifest.Blobs(b); l != nil || e != want {
			t.Error(l, e, want)
		}
	}
	if met[api.ErrForm] < 2 || met[api.ErrSum] < 1 || met[api.OK] > 0 {
		t.Error(met)
	}
	if k, e := manifest.Import(nil, good); k != 0 || e != api.ErrArg {
		t.Error(k, e)
	}
	if k, e := manifest.Import(&tree.Tree{}, good); k != 0 || e != api.ErrArg {
		t.Error(k, e)
	}
	// Other keys, ahead of all, between, and behind; told ahead of a want of room.
	small := bare(t, 2, 1)
	for _, k := range []string{"a", "m", "m\xff", "N", "X", "o", "w", "w\xff", "y", "\x00", "\xff", " n", "\x00x"} {
		l := []api.Pair{{Key: "n1", Val: "a"}, {Key: "x1", Val: "b"}, {Key: k, Val: "c"}}
		for i := range 20 {
			l = append(l, api.Pair{Key: "n2" + strconv.Itoa(10+i), Val: fill('v', api.MaxVal)})
		}
		slices.SortFunc(l, func(a, b api.Pair) int { return strings.Compare(a.Key, b.Key) })
		b := packed(t, 5, l...)
		none.refuses(b, api.ErrForm)
		small.refuses(b, api.ErrForm)
	}
	none.imports(good, 5)
}

// A tree that is too small for a manifest is empty behind it, and takes a smaller one.
func TestImportNoRoom(t *testing.T) {
	var l []api.Pair
	for i := range 40 {
		l = append(l, api.Pair{Key: "n" + strconv.Itoa(100+i), Val: fill('v', i)})
	}
	refused, taken := 0, 0
	for pages := 1; pages < 40; pages++ {
		h := bare(t, pages, 1)
		b := packed(t, 3, l...)
		if _, e := manifest.Import(h.r, b); e == api.OK {
			taken++
			if !slices.Equal(h.pairs(), l) {
				t.Error("other pairs")
			}
			continue
		}
		refused++
		h.refuses(b, api.ErrSpace)
		h.stands(nil, 0, max(pages-1, 0))
		if pages > 2 {
			h.imports(packed(t, 4, l[:2]...), 4)
			told(t, "Commit", h.p.Commit(), api.OK)
			h.d.Crash(nil)
			h.mount()
			if !slices.Equal(h.pairs(), l[:2]) {
				t.Error("other pairs")
			}
		}
	}
	if refused < 10 || taken < 5 {
		t.Error(refused, taken)
	}
}

// Blobs tells the chunks' alone, in the order of their pairs, and the first error that there is.
func TestBlobs(t *testing.T) {
	h := bare(t, 60, 9)
	c := h.chunks()
	for i := range 3 {
		told(t, "Write", c.Write(2, i, fill('a', api.Chunk)), api.OK)
	}
	fresh := h.pairs()
	for i := range 3 {
		told(t, "Clean", c.Clean(2, i, 9-i, 1<<31-1-i), api.OK)
	}
	kept := h.pairs()
	names := []string{"c-9-2147483647", "c-8-2147483646", "c-7-2147483645"}
	other, bad, last := api.Pair{Key: "n", Val: "1"}, api.Pair{Key: "x", Val: "1"}, api.Pair{Key: "xz", Val: "1"}
	blobs(t, packed(t, 1))
	blobs(t, packed(t, 1, other))
	blobs(t, packed(t, 1, api.Pair{Key: "a"}, other, api.Pair{Key: "w\xff"}, kept[0], kept[1], kept[2], api.Pair{Key: "y"}), names...)
	for _, x := range []struct {
		l    []api.Pair
		want api.Errno
	}{
		{[]api.Pair{kept[0], fresh[1], kept[2]}, api.ErrStale},
		{[]api.Pair{kept[0], kept[1], fresh[2]}, api.ErrStale},
		{[]api.Pair{kept[0], kept[1], kept[2], last}, api.ErrForm},
		{[]api.Pair{bad, fresh[0]}, api.ErrForm},
		{[]api.Pair{fresh[0], last}, api.ErrStale},
		{[]api.Pair{other, bad}, api.ErrForm},
	} {
		if l, e := manifest.Blobs(packed(t, 1, x.l...)); l != nil || e != x.want {
			t.Error(l, e, x.want)
		}
	}
}

// Nothing that is handed in is changed or kept, and answers are new memory.
func TestMemory(t *testing.T) {
	h := bare(t, 60, 9)
	c := h.chunks()
	h.names().Make("/f", file)
	told(t, "Write", c.Write(2, 0, fill('a', api.Chunk)), api.OK)
	told(t, "Clean", c.Clean(2, 0, 1, 1), api.OK)
	b := h.exports(1)
	old := slices.Clone(b)
	for i := range b {
		b[i] = 0
	}
	if string(h.exports(1)) != string(old) {
		t.Error("the answer was kept")
	}
	spare := append(make([]byte, 0, len(old)+10), old...)
	tail := spare[len(old) : len(old)+10]
	copy(tail, "0123456789")
	o := bare(t, 60, 9)
	o.imports(spare, 1)
	l, _ := manifest.Blobs(spare)
	if string(spare) != string(old) || string(tail) != "0123456789" {
		t.Error("what was handed in is changed")
	}
	for i := range spare {
		spare[i] = 'x'
	}
	if string(o.exports(1)) != string(old) || l[0] != "c-1-1" {
		t.Error("what was handed in was kept")
	}
	l[0] = ""
	blobs(t, old, "c-1-1")
}
