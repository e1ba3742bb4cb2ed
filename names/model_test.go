package names_test

import (
	"maps"
	"slices"
	"strconv"
	"strings"
	"testing"

	"cistern/api"
	"cistern/flash"
	"cistern/names"
	"cistern/page"
	"cistern/route"
	"cistern/tree"
)

// dice tells numbers below n, the same ones in each run.
type dice uint64

func (r *dice) below(n int) int {
	*r = *r*6364136223846793005 + 1442695040888963407
	return int(uint64(*r)>>33) % n
}

// item is a file, or a directory with its kids.
type item struct {
	ino, kind, size int
	kids            map[string]*item
}

// world is a tree in memory.
type world struct {
	root  *item
	given int
}

func newWorld() *world {
	return &world{&item{ino: 1, kind: directory, kids: map[string]*item{}}, 1}
}

// each goes over all paths with what they name, the root's among them.
func (w *world) each(do func(path string, x *item)) {
	var down func(path string, x *item)
	down = func(path string, x *item) {
		do(path, x)
		for _, name := range slices.Sorted(maps.Keys(x.kids)) {
			down(strings.TrimSuffix(path, "/")+"/"+name, x.kids[name])
		}
	}
	down("/", w.root)
}

// infos tells what is known of all numbers.
func (w *world) infos() map[int]names.Info {
	l := map[int]names.Info{}
	w.each(func(_ string, x *item) {
		l[x.ino] = names.Info{Ino: x.ino, Kind: x.kind, Size: x.size, Links: l[x.ino].Links + 1}
	})
	return l
}

func (w *world) find(path string) (*item, api.Errno) {
	l, e := route.Parse(path)
	if e != api.OK {
		return nil, e
	}
	x := w.root
	for _, name := range l {
		if x.kind == file {
			return nil, api.ErrFile
		}
		next, there := x.kids[name]
		if !there {
			return nil, api.ErrMiss
		}
		x = next
	}
	return x, api.OK
}

// place is the directory that a path's last name stands in, and that name.
func (w *world) place(path string) (*item, string, api.Errno) {
	above, name, e := route.Parent(path)
	if e != api.OK {
		return nil, "", e
	}
	x, e := w.find(above)
	if e != api.OK {
		return nil, "", e
	}
	if x.kind == file {
		return nil, "", api.ErrFile
	}
	return x, name, api.OK
}

func (w *world) make(path string, kind int) (int, api.Errno) {
	if kind < 1 || kind > 2 {
		return 0, api.ErrArg
	}
	dir, name, e := w.place(path)
	if e != api.OK {
		return 0, e
	}
	if dir.kids[name] != nil {
		return 0, api.ErrThere
	}
	w.given++
	dir.kids[name] = &item{ino: w.given, kind: kind, kids: map[string]*item{}}
	return w.given, api.OK
}

func (w *world) link(path, to string) (int, api.Errno) {
	x, e := w.find(path)
	if e != api.OK {
		return 0, e
	}
	if x.kind == directory {
		return 0, api.ErrDir
	}
	dir, name, e := w.place(to)
	if e != api.OK {
		return 0, e
	}
	if dir.kids[name] != nil {
		return 0, api.ErrThere
	}
	dir.kids[name] = x
	return 0, api.OK
}

// lost tells a file's number, if it has no name any longer.
func (w *world) lost(x *item) int {
	if _, there := w.infos()[x.ino]; there || x.kind == directory {
		return 0
	}
	return x.ino
}

func (w *world) unlink(path string) (int, api.Errno) {
	x, e := w.find(path)
	if e != api.OK {
		return 0, e
	}
	if x.kind == directory {
		return 0, api.ErrDir
	}
	dir, name, _ := w.place(path)
	delete(dir.kids, name)
	return w.lost(x), api.OK
}

func (w *world) rmdir(path string) (int, api.Errno) {
	if path == "/" {
		return 0, api.ErrName
	}
	x, e := w.find(path)
	if e != api.OK {
		return 0, e
	}
	if x.kind == file {
		return 0, api.ErrFile
	}
	if len(x.kids) > 0 {
		return 0, api.ErrFull
	}
	dir, name, _ := w.place(path)
	delete(dir.kids, name)
	return 0, api.OK
}

func (w *world) resize(ino, size int) (int, api.Errno) {
	if size < 0 || size > 1<<30 {
		return 0, api.ErrArg
	}
	var found *item
	w.each(func(_ string, x *item) {
		if x.ino == ino {
			found = x
		}
	})
	if found == nil {
		return 0, api.ErrMiss
	}
	if found.kind == directory {
		return 0, api.ErrDir
	}
	found.size = size
	return 0, api.OK
}

// height tells how many names the longest path below an item has.
func (x *item) height() int {
	most := 0
	for _, kid := range x.kids {
		most = max(most, 1+kid.height())
	}
	return most
}

func (w *world) rename(from, to string) (int, api.Errno) {
	for _, path := range []string{from, to} {
		if _, e := route.Parse(path); e != api.OK || path == "/" {
			return 0, api.ErrName
		}
	}
	x, e := w.find(from)
	if e != api.OK {
		return 0, e
	}
	if x.kind == directory && strings.HasPrefix(to, from+"/") {
		return 0, api.ErrLoop
	}
	dir, name, e := w.place(to)
	if e != api.OK {
		return 0, e
	}
	old := dir.kids[name]
	if old != nil {
		if old == x {
			return 0, api.OK
		}
		if old.kind == directory && x.kind == file {
			return 0, api.ErrDir
		}
		if old.kind == file && x.kind == directory {
			return 0, api.ErrFile
		}
		if len(old.kids) > 0 {
			return 0, api.ErrFull
		}
	}
	if x.kind == directory && strings.Count(to, "/")+x.height() > 10 {
		return 0, api.ErrBig
	}
	source, last, _ := w.place(from)
	delete(source.kids, last)
	dir.kids[name] = x
	if old == nil {
		return 0, api.OK
	}
	return w.lost(old), api.OK
}

// play is names beside a tree in memory.
type play struct {
	t       *testing.T
	r       *tree.Tree
	n       *names.Names
	w       *world
	dice    dice
	d       *flash.Device
	down    bool              // the power is off at each call
	others  int               // how many pairs aren't names
	letters string            // what names are made of
	deep    bool              // rather the longer paths
	answers map[api.Errno]int // how many times each error was answered
}

func (p *play) name() string {
	i := p.dice.below(len(p.letters))
	return strings.Repeat(p.letters[i:i+1], 1+i%3*7)
}

// some is a path that is there.
func (p *play) some() string {
	var l []string
	p.w.each(func(path string, _ *item) { l = append(l, path) })
	path, other := l[p.dice.below(len(l))], l[p.dice.below(len(l))]
	if p.deep && len(other) > len(path) {
		return other
	}
	return path
}

// beside is the path of a name in the directory that a path names, or in the one that it lies in.
func (p *play) beside(path string) string {
	if x, _ := p.w.find(path); x.kind == file {
		path, _, _ = route.Parent(path)
	}
	return strings.TrimSuffix(path, "/") + "/" + p.name()
}

// path is one that is there (and so the more often, the more of eight), or one beside or below such a one, or none.
func (p *play) path(there int) string {
	path := p.some()
	k := p.dice.below(8)
	switch {
	case k < there:
		return path
	case k < 6:
		path = p.beside(path)
	case k < 7:
		path = strings.TrimSuffix(path, "/") + "/" + p.name()
	default:
		path = strings.TrimSuffix(path, "/") + "/" + p.name() + "/" + p.name()
	}
	if p.dice.below(30) == 0 {
		path += "/"
	}
	return path
}

// act does the same to both: what is to be answered, and what is.
func (p *play) act() (string, func() (int, api.Errno), func() (int, api.Errno)) {
	n, w, there, path, to := p.n, p.w, p.path(6), p.path(0), p.path(3)
	switch k := p.dice.below(16); {
	case k < 5:
		kind := 1 + p.dice.below(2)
		if p.dice.below(50) == 0 {
			kind = 3
		}
		return "Make", func() (int, api.Errno) { return w.make(path, kind) }, func() (int, api.Errno) { return n.Make(path, kind) }
	case k < 7:
		return "Link", func() (int, api.Errno) { return w.link(there, to) }, func() (int, api.Errno) { return 0, n.Link(there, to) }
	case k < 9:
		return "Unlink", func() (int, api.Errno) { return w.unlink(there) }, func() (int, api.Errno) { return n.Unlink(there) }
	case k < 10:
		return "Rmdir", func() (int, api.Errno) { return w.rmdir(there) }, func() (int, api.Errno) { return 0, n.Rmdir(there) }
	case k < 15:
		return "Rename", func() (int, api.Errno) { return w.rename(there, to) }, func() (int, api.Errno) { return n.Rename(there, to) }
	}
	ino, size := p.dice.below(w.given+2), p.dice.below(1<<20)<<p.dice.below(12)-1
	return "Resize", func() (int, api.Errno) { return w.resize(ino, size) }, func() (int, api.Errno) { return 0, n.Resize(ino, size) }
}

// copied is another tree in memory just like this one.
func (w *world) copied() *world {
	twins := map[*item]*item{}
	var copied func(x *item) *item
	copied = func(x *item) *item {
		if twins[x] == nil {
			y := *x
			twins[x] = &y
			y.kids = map[string]*item{}
			for name, kid := range x.kids {
				y.kids[name] = copied(kid)
			}
		}
		return twins[x]
	}
	return &world{copied(w.root), w.given}
}

// step does one thing; what is refused for want of room, or of power, is undone in memory too.
func (p *play) step() {
	p.t.Helper()
	before, room, bound := p.state(), p.r.Room(), 6*(p.r.Depth()+3)
	old := p.w.copied()
	what, expect, do := p.act()
	want, wanted := expect()
	if p.down {
		p.d.Arm(0)
		told(p.t, "Flush", p.d.Flush(), api.ErrDown)
	}
	got, e := do()
	p.answers[e]++
	if e == api.ErrSpace && wanted == api.OK || e == api.ErrDown && p.down {
		if e == api.ErrSpace && (room >= bound || what == "Resize") {
			p.t.Errorf("%s has no room, but there are %d pages, and %d are enough", what, room, bound)
		}
		p.w = old
		want, wanted = 0, e
	}
	if got != want || e != wanted {
		p.t.Errorf("%s: %d, %d, not %d, %d", what, got, e, want, wanted)
	}
	if p.down {
		p.d.Crash(nil)
	}
	if e != api.OK && !slices.Equal(p.state(), before) {
		p.t.Errorf("%s has changed the tree beside error %d", what, e)
	}
}

// state tells all pairs, and how the tree stands.
func (p *play) state() []api.Pair {
	p.t.Helper()
	return append(pairs(p.t, p.r), api.Pair{Key: strconv.Itoa(p.r.Room())})
}

// right compares all that both tell.
func (p *play) right() {
	p.t.Helper()
	p.w.each(func(path string, x *item) {
		looks(p.t, p.n, path, x.ino, api.OK)
		if x.kind == directory {
			lists(p.t, p.n, path, slices.Sorted(maps.Keys(x.kids))...)
		}
	})
	infos := p.w.infos()
	for ino := -1; ino < p.w.given+3; ino++ {
		if want, there := infos[ino]; there {
			knows(p.t, p.n, ino, want.Kind, want.Size, want.Links)
		} else {
			gone(p.t, p.n, ino)
		}
	}
	path := p.path(2)
	want := 0
	x, e := p.w.find(path)
	if e == api.OK {
		want = x.ino
	}
	looks(p.t, p.n, path, want, e)
	told(p.t, "Check", p.r.Check(), api.OK)
}

// few: there is one pair for each file and directory, and one for each name, and no others.
func (p *play) few() {
	p.t.Helper()
	paths := 0
	p.w.each(func(string, *item) { paths++ })
	if got, want := p.r.Count(), p.others+len(p.w.infos())+paths-1; got != want {
		p.t.Errorf("%d pairs, not %d", got, want)
	}
}

// players are names in a new tree of so many pages, beside a tree in memory.
func players(t *testing.T, d dice, pages int) (*page.Store, *play) {
	t.Helper()
	device, s, r := grove(t, pages)
	return s, &play{
		t: t, r: r, n: opened(t, r), w: newWorld(), dice: d, d: device,
		letters: "abcdefgh"[:1+d.below(8)], deep: d.below(2) == 0, answers: map[api.Errno]int{},
	}
}

// fill puts pairs that aren't names, until no more than so many pages are free.
func (p *play) fill(room int) {
	p.t.Helper()
	for p.r.Room() > room {
		key := []string{"b", "m", "o", "x", "N"}[p.dice.below(5)]
		for range 28 {
			key += string([]byte{byte(p.dice.below(256))})
		}
		if e := p.r.Put(key, strings.Repeat("v", p.dice.below(api.MaxVal+1))); e != api.OK {
			told(p.t, "Put", e, api.ErrSpace)
			break
		}
	}
	p.others = p.r.Count() - 1
}

// dig makes directories in each other, so that paths are as long as they may be.
func (p *play) dig(depth int) {
	for i := range depth {
		if _, e := p.n.Make(deep(i+1), directory); e != api.OK {
			break
		}
		p.w.make(deep(i+1), directory)
	}
}

// met asks that all these errors were met so many times.
func (p *play) met(least int, errors ...api.Errno) {
	p.t.Helper()
	for _, e := range errors {
		if p.answers[e] < least {
			p.t.Errorf("error %d was met %d times", e, p.answers[e])
		}
	}
}

// Everything in any order: names are as a tree in memory, opened again or not.
func TestAnyOrder(t *testing.T) {
	t.Parallel()
	answers := map[api.Errno]int{}
	for seed := range 80 {
		s, p := players(t, dice(seed), 300)
		p.answers = answers
		type mark struct {
			m *tree.Mark
			w *world
		}
		var marks []mark
		if p.deep {
			p.dig(10)
		}
		for i := range 250 {
			switch k := p.dice.below(40); {
			case k == 0:
				p.n = opened(t, p.r)
			case k == 1:
				marks = append(marks, mark{p.r.Mark(), p.w.copied()})
			case k == 2 && len(marks) > 0:
				x := marks[p.dice.below(len(marks))]
				told(t, "Back", p.r.Back(x.m), api.OK)
				p.w = x.w.copied()
			case k == 3:
				told(t, "Commit", s.Commit(), api.OK)
				marks = nil
			default:
				p.step()
			}
			if i%5 == 0 {
				p.right()
			}
			p.few()
			if t.Failed() {
				t.Fatal("seed", seed, "step", i)
			}
		}
	}
	(&play{t: t, answers: answers}).met(20, api.OK, api.ErrArg, api.ErrName, api.ErrMiss, api.ErrThere, api.ErrDir, api.ErrFile, api.ErrFull, api.ErrLoop, api.ErrBig)
	if answers[api.ErrSpace] > 0 {
		t.Error("there was much room")
	}
}

// In trees that are full, or nearly, of names or of other pairs: what has no room changes nothing.
func TestNoRoom(t *testing.T) {
	t.Parallel()
	answers := map[api.Errno]int{}
	for seed := range 150 {
		d := dice(seed)
		_, p := players(t, d, 4+d.below(100))
		p.answers = answers
		p.fill(d.below(30))
		for i := range 120 {
			p.step()
			if i%10 == 0 {
				p.right()
			}
			p.few()
			if t.Failed() {
				t.Fatal("seed", seed, "step", i)
			}
		}
	}
	(&play{t: t, answers: answers}).met(200, api.OK, api.ErrSpace)
}

// The power goes off, so that pages which aren't in memory can't be read: a call does all of it, or nothing.
func TestPowerOff(t *testing.T) {
	t.Parallel()
	answers := map[api.Errno]int{}
	for seed := range 60 {
		s, p := players(t, dice(seed), 120)
		p.answers = answers
		p.fill(60)
		for i := range 100 {
			if i%25 == 0 {
				told(t, "Commit", s.Commit(), api.OK)
				told(t, "Checkpoint", s.Checkpoint(), api.OK)
			}
			p.down = p.dice.below(2) == 0
			p.step()
			if i%10 == 0 {
				p.right()
			}
			p.few()
			if t.Failed() {
				t.Fatal("seed", seed, "step", i)
			}
		}
	}
	(&play{t: t, answers: answers}).met(200, api.OK, api.ErrDown)
}

// Behind a loss of power the names are those of the last commit, the numbers that were given till then among them.
func TestCrashes(t *testing.T) {
	t.Parallel()
	lost := 0
	for seed := range 60 {
		s, p := players(t, dice(seed), 120)
		for range 8 {
			for range 15 {
				p.step()
			}
			told(t, "Commit", s.Commit(), api.OK)
			kept, before := p.w.copied(), p.w.given
			for range p.dice.below(15) {
				p.step()
			}
			lost += p.w.given - before
			p.d.Crash([]int{p.dice.below(3), p.dice.below(3), p.dice.below(3)})
			s, p.r = mounted(t, p.d, 120)
			p.n, p.w = opened(t, p.r), kept
			p.right()
			p.few()
			if t.Failed() {
				t.Fatal("seed", seed)
			}
		}
	}
	if lost < 100 {
		t.Errorf("only %d numbers were lost", lost)
	}
}
