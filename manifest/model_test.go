package manifest_test

import (
	"slices"
	"strconv"
	"strings"
	"testing"

	"cistern/api"
	"cistern/blob"
	"cistern/chunk"
	"cistern/files"
	"cistern/names"
)

// dice tells numbers below n, the same ones in each run.
type dice uint64

func (r *dice) below(n int) int {
	*r = *r*6364136223846793005 + 1442695040888963407
	return int(uint64(*r)>>33) % n
}

// place is a tree with names, chunks and files, and a store behind them.
type place struct {
	*home
	n *names.Names
	c *chunk.Chunks
	f *files.Files
	s *blob.Store
}

func placed(h *home, s *blob.Store) *place {
	h.t.Helper()
	p := &place{home: h, n: h.names(), c: h.chunks(), s: s}
	var e api.Errno
	if p.f, e = files.New(p.n, p.c, s); e != api.OK {
		h.t.Fatal("files.New", e)
	}
	return p
}

// path is one of few, so that some are there.
func (d *dice) path() string {
	s := "/" + strconv.Itoa(d.below(5))
	for d.below(2) == 0 {
		s += "/" + strconv.Itoa(d.below(3))
	}
	return s
}

// step does anything to the names, or the bytes of files; most of it is refused now and then.
func (p *place) step(d *dice) {
	switch d.below(8) {
	case 0, 1:
		p.n.Make(d.path(), 1+d.below(2))
	case 2:
		p.n.Link(d.path(), d.path())
	case 3:
		if i, _ := p.n.Unlink(d.path()); i > 0 {
			p.f.Remove(i)
		}
	case 4:
		if i, _ := p.n.Rename(d.path(), d.path()); i > 0 {
			p.f.Remove(i)
		}
	case 5:
		i, _ := p.n.Look(d.path())
		p.f.Truncate(i, d.below(3000))
	default:
		i, _ := p.n.Look(d.path())
		p.f.Write(i, d.below(3000), []byte(fill(byte(d.below(256)), 1+d.below(600))))
	}
	p.c.Settle()
}

// upload makes chunks clean, all or some, each by a blob of a number of its own; some of them are evicted.
func (p *place) upload(d *dice, num *int, all bool) {
	p.t.Helper()
	l, _ := p.c.List()
	for _, x := range l {
		if x.State == 1 && (all || d.below(2) == 0) {
			b, e := p.c.Read(x.Ino, x.Index)
			told(p.t, "Read", e, api.OK)
			*num++
			told(p.t, "Put", p.s.Put(files.Blob(6, *num), []byte(b)), api.OK)
			told(p.t, "Clean", p.c.Clean(x.Ino, x.Index, 6, *num), api.OK)
		}
		if x.State != absent && d.below(3) == 0 {
			p.c.Evict(x.Ino, x.Index)
		}
	}
	p.c.Settle()
}

// all tells all names, what is known of each, and the bytes of files.
func (p *place) all(path string) []string {
	p.t.Helper()
	i, e := p.n.Look(path)
	told(p.t, "Look", e, api.OK)
	x, e := p.n.Info(i)
	told(p.t, "Info", e, api.OK)
	text := path
	for _, n := range []int{x.Ino, x.Kind, x.Size, x.Links} {
		text += " " + strconv.Itoa(n)
	}
	if x.Kind == file {
		for off := 0; off < x.Size; off += api.MaxIO {
			b, e := p.f.Read(i, off, api.MaxIO)
			told(p.t, "Read", e, api.OK)
			text += string(b)
		}
		return []string{text}
	}
	l := []string{text}
	kids, e := p.n.List(path)
	told(p.t, "List", e, api.OK)
	for _, k := range kids {
		l = append(l, p.all(strings.TrimSuffix(path, "/")+"/"+k)...)
	}
	return l
}

// Trees that were used in any order: what is imported of their manifests has the same names, and the same chunks, all
// absent, each with its blob, by which the files have the same bytes.
func TestAnyTree(t *testing.T) {
	exported, refused, chunks := 0, 0, 0
	for seed := range 120 {
		d, s, num := dice(seed), blob.New(), 0
		p := placed(bare(t, 150, 80), s)
		for range 8 {
			for range 25 {
				p.step(&d)
			}
			p.upload(&d, &num, d.below(3) > 0)
			l, _ := p.c.List()
			waits := slices.ContainsFunc(l, func(x chunk.Extent) bool { return x.State == 1 })
			if waits {
				p.keeps(6, api.ErrStale)
				refused++
				continue
			}
			exported++
			chunks += len(l)
			b := p.exports(6)
			var want []string
			for i, x := range l {
				l[i].State = absent
				want = append(want, files.Blob(x.Epoch, x.Num))
			}
			blobs(t, b, want...)
			h := bare(t, 150, 80)
			h.imports(b, 6)
			o := placed(h, s)
			if got, e := o.c.List(); !slices.Equal(got, l) || e != api.OK {
				t.Errorf("%d chunks, not %d", len(got), len(l))
			}
			if string(o.exports(6)) != string(b) {
				t.Error("another manifest")
			}
			if got, want := o.all("/"), p.all("/"); !slices.Equal(got, want) {
				t.Errorf("%d names, not %d, or other ones", len(got), len(want))
			}
			if t.Failed() {
				t.Fatal("seed", seed)
			}
		}
	}
	if exported < 300 || refused < 100 || chunks < 1000 {
		t.Errorf("%d manifests of %d chunks, %d refused", exported, chunks, refused)
	}
}
