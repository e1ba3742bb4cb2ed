package names_test

import (
	"math"
	"slices"
	"strings"
	"testing"

	"cistern/api"
	"cistern/flash"
	"cistern/names"
	"cistern/page"
	"cistern/tree"
)

const (
	file      = 1
	directory = 2
)

func told(t *testing.T, what string, got, want api.Errno) {
	t.Helper()
	if got != want {
		t.Errorf("%s: %d, not %d", what, got, want)
	}
}

// grove is an empty tree in so many pages of a new device, and its store.
func grove(t *testing.T, pages int) (*flash.Device, *page.Store, *tree.Tree) {
	t.Helper()
	log := max(pages+1, 4)
	d, _ := flash.New(2 + log + pages)
	if e := page.Format(d, log, pages); e != api.OK {
		t.Fatal("Format", e)
	}
	s, r := mounted(t, d, pages)
	return d, s, r
}

// mounted is the tree that lasts on a device of grove.
func mounted(t *testing.T, d *flash.Device, pages int) (*page.Store, *tree.Tree) {
	t.Helper()
	s, e := page.Mount(d, max(pages+1, 4), pages)
	if e != api.OK {
		t.Fatal("Mount", e)
	}
	r, e := tree.Open(s)
	if e != api.OK {
		t.Fatal("tree.Open", e)
	}
	return s, r
}

func opened(t *testing.T, r *tree.Tree) *names.Names {
	t.Helper()
	n, e := names.New(r)
	if e != api.OK || n == nil {
		t.Fatal("New", e)
	}
	return n
}

// fresh is names in a new tree, which has much room.
func fresh(t *testing.T) (*tree.Tree, *names.Names) {
	t.Helper()
	_, _, r := grove(t, 300)
	return r, opened(t, r)
}

func made(t *testing.T, n *names.Names, path string, kind, want int) {
	t.Helper()
	if got, e := n.Make(path, kind); got != want || e != api.OK {
		t.Errorf("Make(%q, %d): %d, %d, not %d", path, kind, got, e, want)
	}
}

func looks(t *testing.T, n *names.Names, path string, want int, wanted api.Errno) {
	t.Helper()
	if got, e := n.Look(path); got != want || e != wanted {
		t.Errorf("Look(%q): %d, %d, not %d, %d", path, got, e, want, wanted)
	}
}

func lists(t *testing.T, n *names.Names, path string, want ...string) {
	t.Helper()
	if got, e := n.List(path); !slices.Equal(got, want) || e != api.OK {
		t.Errorf("List(%q): %q, %d, not %q", path, got, e, want)
	}
}

func knows(t *testing.T, n *names.Names, ino, kind, size, links int) {
	t.Helper()
	if got, e := n.Info(ino); got != (names.Info{Ino: ino, Kind: kind, Size: size, Links: links}) || e != api.OK {
		t.Errorf("Info(%d): %v, %d", ino, got, e)
	}
}

func gone(t *testing.T, n *names.Names, inos ...int) {
	t.Helper()
	for _, ino := range inos {
		if got, e := n.Info(ino); got != (names.Info{}) || e != api.ErrMiss {
			t.Errorf("Info(%d): %v, %d", ino, got, e)
		}
	}
}

func linked(t *testing.T, n *names.Names, path, to string) {
	t.Helper()
	told(t, "Link", n.Link(path, to), api.OK)
}

func unlinked(t *testing.T, n *names.Names, path string, want int) {
	t.Helper()
	if got, e := n.Unlink(path); got != want || e != api.OK {
		t.Errorf("Unlink(%q): %d, %d, not %d", path, got, e, want)
	}
}

func moved(t *testing.T, n *names.Names, from, to string, want int) {
	t.Helper()
	if got, e := n.Rename(from, to); got != want || e != api.OK {
		t.Errorf("Rename(%q, %q): %d, %d, not %d", from, to, got, e, want)
	}
}

// pairs tells all pairs of a tree.
func pairs(t *testing.T, r *tree.Tree) []api.Pair {
	t.Helper()
	l, e := r.Range("", "", math.MaxInt)
	if e != api.OK {
		t.Fatal("Range", e)
	}
	return l
}

// refusal is a call, and the error that it is to answer.
type refusal struct {
	what string
	call func() (int, api.Errno)
	want api.Errno
}

// refuses asks calls that are to be refused: beside an error nothing is changed.
func refuses(t *testing.T, r *tree.Tree, l []refusal) {
	t.Helper()
	before := pairs(t, r)
	for _, x := range l {
		if got, e := x.call(); got != 0 || e != x.want {
			t.Errorf("%s: %d, %d, not %d", x.what, got, e, x.want)
		}
		if !slices.Equal(pairs(t, r), before) {
			t.Errorf("%s has changed the tree", x.what)
		}
	}
}

// What follows is one refusal of each call.

func make1(n *names.Names, path string, kind int, want api.Errno) refusal {
	return refusal{"Make " + path, func() (int, api.Errno) { return n.Make(path, kind) }, want}
}

func look1(n *names.Names, path string, want api.Errno) refusal {
	return refusal{"Look " + path, func() (int, api.Errno) { return n.Look(path) }, want}
}

func link1(n *names.Names, path, to string, want api.Errno) refusal {
	return refusal{"Link " + path + " " + to, func() (int, api.Errno) { return 0, n.Link(path, to) }, want}
}

func unlink1(n *names.Names, path string, want api.Errno) refusal {
	return refusal{"Unlink " + path, func() (int, api.Errno) { return n.Unlink(path) }, want}
}

func rmdir1(n *names.Names, path string, want api.Errno) refusal {
	return refusal{"Rmdir " + path, func() (int, api.Errno) { return 0, n.Rmdir(path) }, want}
}

func list1(n *names.Names, path string, want api.Errno) refusal {
	return refusal{"List " + path, func() (int, api.Errno) { l, e := n.List(path); return len(l), e }, want}
}

func rename1(n *names.Names, from, to string, want api.Errno) refusal {
	return refusal{"Rename " + from + " " + to, func() (int, api.Errno) { return n.Rename(from, to) }, want}
}

func resize1(n *names.Names, ino, size int, want api.Errno) refusal {
	return refusal{"Resize", func() (int, api.Errno) { return 0, n.Resize(ino, size) }, want}
}

func TestFirstExample(t *testing.T) {
	r, n := fresh(t)
	made(t, n, "/a", directory, 2)
	made(t, n, "/a/f", file, 3)
	refuses(t, r, []refusal{
		make1(n, "/a", file, api.ErrThere),
		make1(n, "/x/f", file, api.ErrMiss),
		make1(n, "/a/f/g", file, api.ErrFile),
	})
	lists(t, n, "/a", "f")
	linked(t, n, "/a/f", "/g")
	knows(t, n, 3, file, 0, 2)
	unlinked(t, n, "/a/f", 0)
	unlinked(t, n, "/g", 3)
	gone(t, n, 3)
	made(t, n, "/b", file, 4)
}

func TestSecondExample(t *testing.T) {
	r, n := fresh(t)
	made(t, n, "/a", directory, 2)
	made(t, n, "/a/b", directory, 3)
	refuses(t, r, []refusal{rename1(n, "/a", "/a/b/c", api.ErrLoop)})
	moved(t, n, "/a/b", "/b", 0)
	told(t, "Rmdir", n.Rmdir("/a"), api.OK)
	before := pairs(t, r)
	moved(t, n, "/b", "/b", 0)
	if !slices.Equal(pairs(t, r), before) {
		t.Error("nothing was to be done")
	}
	refuses(t, r, []refusal{rmdir1(n, "/", api.ErrName)})
}

// A tree without names gets the root directory, whatever else it holds; with names, nothing.
func TestNew(t *testing.T) {
	r, n := fresh(t)
	looks(t, n, "/", 1, api.OK)
	knows(t, n, 1, directory, 0, 1)
	lists(t, n, "/")
	gone(t, n, 0, 2, -1)
	if r.Count() == 0 {
		t.Error("the root directory is no change of the tree")
	}
	made(t, n, "/a", directory, 2)
	made(t, n, "/a/b", file, 3)
	before := pairs(t, r)
	again := opened(t, r)
	if !slices.Equal(pairs(t, r), before) {
		t.Error("New has changed a tree with names")
	}
	looks(t, again, "/a/b", 3, api.OK)
	made(t, again, "/a/c", file, 4)
}

func TestOfNothing(t *testing.T) {
	if n, e := names.New(nil); n != nil || e != api.ErrArg {
		t.Error(n, e)
	}
	if n, e := names.New(&tree.Tree{}); n != nil || e != api.ErrArg {
		t.Error(n, e)
	}
	for _, n := range []*names.Names{nil, {}} {
		for _, x := range []refusal{
			make1(n, "/a", file, api.ErrArg), make1(n, "", 0, api.ErrArg), look1(n, "/", api.ErrArg), look1(n, "", api.ErrArg),
			link1(n, "/a", "/b", api.ErrArg), link1(n, "", "", api.ErrArg), unlink1(n, "/a", api.ErrArg), unlink1(n, "", api.ErrArg),
			rmdir1(n, "/a", api.ErrArg), rmdir1(n, "/", api.ErrArg), list1(n, "/", api.ErrArg), list1(n, "", api.ErrArg),
			rename1(n, "/a", "/b", api.ErrArg), rename1(n, "", "", api.ErrArg), resize1(n, 1, 0, api.ErrArg), resize1(n, 0, -1, api.ErrArg),
		} {
			if got, e := x.call(); got != 0 || e != x.want {
				t.Errorf("%s of nothing: %d, %d", x.what, got, e)
			}
		}
		if i, e := n.Info(1); i != (names.Info{}) || e != api.ErrArg {
			t.Error(i, e)
		}
	}
}

// town has a directory /d with a directory e in it and a file f of two names, /d/f and /g, and empty directories.
func town(t *testing.T) (*tree.Tree, *names.Names) {
	t.Helper()
	r, n := fresh(t)
	made(t, n, "/d", directory, 2)
	made(t, n, "/d/e", directory, 3)
	made(t, n, "/d/f", file, 4)
	linked(t, n, "/d/f", "/g")
	made(t, n, "/h", file, 5)
	made(t, n, "/i", directory, 6)
	return r, n
}

// notPaths are texts that are no paths, in any call.
var notPaths = []string{"", "a", "/a/", "//", "/.", "/a b", "/d/", "d/f", "/d/..", "/g/./x", "/12345678901234567", strings.Repeat("/d", 11), strings.Repeat("x", 1<<16)}

func TestLook(t *testing.T) {
	r, n := town(t)
	for path, want := range map[string]int{"/": 1, "/d": 2, "/d/e": 3, "/d/f": 4, "/g": 4, "/h": 5, "/i": 6} {
		looks(t, n, path, want, api.OK)
	}
	l := []refusal{
		look1(n, "/x", api.ErrMiss), look1(n, "/d/x", api.ErrMiss), look1(n, "/D", api.ErrMiss), look1(n, "/dd", api.ErrMiss),
		look1(n, "/x/y", api.ErrMiss), look1(n, "/d/e/f", api.ErrMiss), look1(n, "/e", api.ErrMiss), look1(n, "/f", api.ErrMiss),
		look1(n, "/g/x", api.ErrFile), look1(n, "/d/f/x", api.ErrFile), look1(n, "/d/f/x/y/z", api.ErrFile),
		// The one that is met first.
		look1(n, "/x/g/y", api.ErrMiss), look1(n, "/d/x/g/f", api.ErrMiss),
		look1(n, "/g/x/", api.ErrName), look1(n, "/x/./y", api.ErrName),
	}
	for _, path := range notPaths {
		l = append(l, look1(n, path, api.ErrName), list1(n, path, api.ErrName), unlink1(n, path, api.ErrName), rmdir1(n, path, api.ErrName))
	}
	refuses(t, r, l)
}

func TestInfo(t *testing.T) {
	_, n := town(t)
	knows(t, n, 1, directory, 0, 1)
	knows(t, n, 2, directory, 0, 1)
	knows(t, n, 4, file, 0, 2)
	knows(t, n, 5, file, 0, 1)
	// Numbers that are like others in their last bytes are others.
	gone(t, n, 0, -1, 7, 1<<31, 1<<31-1, 1<<32, 1<<32+1, 1<<32+4, math.MinInt+4, math.MaxInt, -1<<32+4)
}

func TestMake(t *testing.T) {
	r, n := town(t)
	l := []refusal{
		make1(n, "/x", 0, api.ErrArg), make1(n, "/x", 3, api.ErrArg), make1(n, "/x", -1, api.ErrArg), make1(n, "", 0, api.ErrArg),
		make1(n, "/d", 3, api.ErrArg), make1(n, "/x", 1+1<<32, api.ErrArg),
		make1(n, "/", file, api.ErrName), make1(n, "/", directory, api.ErrName),
		make1(n, "/x/y", file, api.ErrMiss), make1(n, "/x/y", directory, api.ErrMiss), make1(n, "/x/d/y", file, api.ErrMiss),
		make1(n, "/g/x/y", file, api.ErrFile), make1(n, "/g/x", directory, api.ErrFile), make1(n, "/d/f/x", file, api.ErrFile),
		make1(n, "/d", file, api.ErrThere), make1(n, "/d", directory, api.ErrThere), make1(n, "/g", file, api.ErrThere), make1(n, "/d/f", directory, api.ErrThere),
	}
	for _, path := range notPaths {
		l = append(l, make1(n, path, file, api.ErrName), make1(n, path, directory, api.ErrName))
	}
	refuses(t, r, l)
	made(t, n, "/d/e/x", file, 7)
	made(t, n, "/x", directory, 8)
	knows(t, n, 7, file, 0, 1)
	knows(t, n, 8, directory, 0, 1)
	lists(t, n, "/x")
}

// A number is given once, even if what had the greatest is gone, or was never kept, or the tree was opened again.
func TestNumbers(t *testing.T) {
	r, n := fresh(t)
	made(t, n, "/a", file, 2)
	made(t, n, "/b", directory, 3)
	told(t, "Rmdir", n.Rmdir("/b"), api.OK)
	made(t, n, "/b", directory, 4)
	told(t, "Rmdir", n.Rmdir("/b"), api.OK)
	unlinked(t, n, "/a", 2)
	n = opened(t, r)
	made(t, n, "/c", file, 5)
	if _, e := n.Make("/c", file); e != api.ErrThere {
		t.Error(e)
	}
	made(t, n, "/d", file, 6)
	moved(t, n, "/c", "/d", 6)
	n = opened(t, r)
	made(t, n, "/e", file, 7)
	looks(t, n, "/d", 5, api.OK)
	// Behind a mark that was gone back to, what was given since wasn't.
	m := r.Mark()
	made(t, n, "/f", file, 8)
	told(t, "Back", r.Back(m), api.OK)
	made(t, n, "/g", file, 8)
	looks(t, n, "/f", 0, api.ErrMiss)
}

func TestLink(t *testing.T) {
	r, n := town(t)
	l := []refusal{
		link1(n, "/x", "/y", api.ErrMiss), link1(n, "/g/x", "/y", api.ErrFile), link1(n, "/x", "", api.ErrMiss),
		link1(n, "/d", "/y", api.ErrDir), link1(n, "/", "/y", api.ErrDir), link1(n, "/d", "", api.ErrDir), link1(n, "/d", "/d", api.ErrDir),
		link1(n, "/d", "/x/y", api.ErrDir), link1(n, "/d", "/", api.ErrDir),
		link1(n, "/g", "/", api.ErrName), link1(n, "/g", "/x/y", api.ErrMiss), link1(n, "/g", "/g/y", api.ErrFile), link1(n, "/g", "/d/f/x", api.ErrFile),
		link1(n, "/g", "/g/x/y", api.ErrFile), link1(n, "/g", "/g", api.ErrThere), link1(n, "/g", "/h", api.ErrThere), link1(n, "/g", "/d", api.ErrThere), link1(n, "/g", "/d/f", api.ErrThere),
	}
	for _, path := range notPaths {
		l = append(l, link1(n, path, "/y", api.ErrName), link1(n, path, path, api.ErrName), link1(n, "/g", path, api.ErrName), link1(n, "/x", path, api.ErrMiss))
	}
	refuses(t, r, l)
	linked(t, n, "/g", "/d/e/y")
	knows(t, n, 4, file, 0, 3)
	looks(t, n, "/d/e/y", 4, api.OK)
	told(t, "Resize", n.Resize(4, 9), api.OK)
	linked(t, n, "/d/e/y", "/y")
	knows(t, n, 4, file, 9, 4)
	made(t, n, "/z", file, 7)
}

func TestUnlink(t *testing.T) {
	r, n := town(t)
	refuses(t, r, []refusal{
		unlink1(n, "/", api.ErrDir), unlink1(n, "/d", api.ErrDir), unlink1(n, "/i", api.ErrDir), unlink1(n, "/x", api.ErrMiss),
		unlink1(n, "/g/x", api.ErrFile), unlink1(n, "/d/x", api.ErrMiss), unlink1(n, "/x/g", api.ErrMiss),
	})
	told(t, "Resize", n.Resize(4, 9), api.OK)
	unlinked(t, n, "/g", 0)
	knows(t, n, 4, file, 9, 1)
	lists(t, n, "/", "d", "h", "i")
	lists(t, n, "/d", "e", "f")
	unlinked(t, n, "/d/f", 4)
	gone(t, n, 4)
	lists(t, n, "/d", "e")
	unlinked(t, n, "/h", 5)
	refuses(t, r, []refusal{unlink1(n, "/h", api.ErrMiss), resize1(n, 4, 1, api.ErrMiss), resize1(n, 5, 1, api.ErrMiss)})
}

func TestRmdir(t *testing.T) {
	r, n := town(t)
	refuses(t, r, []refusal{
		rmdir1(n, "/", api.ErrName), rmdir1(n, "/x", api.ErrMiss), rmdir1(n, "/d/x", api.ErrMiss), rmdir1(n, "/g/x", api.ErrFile),
		rmdir1(n, "/g", api.ErrFile), rmdir1(n, "/d/f", api.ErrFile), rmdir1(n, "/d", api.ErrFull),
	})
	told(t, "Rmdir", n.Rmdir("/d/e"), api.OK)
	gone(t, n, 3)
	refuses(t, r, []refusal{rmdir1(n, "/d", api.ErrFull), rmdir1(n, "/d/e", api.ErrMiss)})
	unlinked(t, n, "/d/f", 0)
	told(t, "Rmdir", n.Rmdir("/d"), api.OK)
	gone(t, n, 2)
	lists(t, n, "/", "g", "h", "i")
	knows(t, n, 4, file, 0, 1)
}

func TestList(t *testing.T) {
	r, n := town(t)
	refuses(t, r, []refusal{list1(n, "/x", api.ErrMiss), list1(n, "/g", api.ErrFile), list1(n, "/g/x", api.ErrFile), list1(n, "/d/f", api.ErrFile)})
	lists(t, n, "/", "d", "g", "h", "i")
	lists(t, n, "/d", "e", "f")
	lists(t, n, "/i")
	// Rising byte by byte: all bytes that a name may begin with, and names of which one begins another.
	var want []string
	for b := 0x7E; b >= 0x21; b-- {
		if b != '/' {
			for _, s := range []string{"0", "", "~~~~~~~~~~~~~~~", "!"} {
				name := string([]byte{byte(b)}) + s
				if name == "." {
					continue
				}
				want = append(want, name)
				linked(t, n, "/g", "/i/"+name)
			}
		}
	}
	slices.Sort(want)
	lists(t, n, "/i", want...)
	knows(t, n, 4, file, 0, 2+len(want))
}

func TestResize(t *testing.T) {
	r, n := town(t)
	refuses(t, r, []refusal{
		resize1(n, 4, -1, api.ErrArg), resize1(n, 4, 1<<30+1, api.ErrArg), resize1(n, 9, -1, api.ErrArg), resize1(n, 2, -1, api.ErrArg),
		resize1(n, 4, math.MaxInt, api.ErrArg), resize1(n, 4, math.MinInt, api.ErrArg), resize1(n, 4, 1<<32, api.ErrArg),
		resize1(n, 0, 1, api.ErrMiss), resize1(n, 9, 0, api.ErrMiss), resize1(n, -4, 1, api.ErrMiss), resize1(n, 1<<32+4, 1, api.ErrMiss),
		resize1(n, 1, 0, api.ErrDir), resize1(n, 2, 1, api.ErrDir), resize1(n, 6, 0, api.ErrDir),
	})
	for _, size := range []int{0, 1, 255, 256, 8192, 1<<24 + 1, 1<<30 - 1, 1 << 30, 7} {
		told(t, "Resize", n.Resize(4, size), api.OK)
		knows(t, n, 4, file, size, 2)
		knows(t, n, 5, file, 0, 1)
	}
	n = opened(t, r)
	knows(t, n, 4, file, 7, 2)
}
