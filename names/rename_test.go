package names_test

import (
	"slices"
	"strings"
	"testing"

	"cistern/api"
	"cistern/names"
	"cistern/tree"
)

func TestRenameRefuses(t *testing.T) {
	r, n := town(t)
	made(t, n, "/i/j", file, 7)
	l := []refusal{
		rename1(n, "/", "/x", api.ErrName), rename1(n, "/g", "/", api.ErrName), rename1(n, "/", "/", api.ErrName), rename1(n, "/x", "/", api.ErrName),
		rename1(n, "/x", "/y", api.ErrMiss), rename1(n, "/x", "/x", api.ErrMiss), rename1(n, "/x", "/x/y", api.ErrMiss), rename1(n, "/g/x", "/y", api.ErrFile),
		rename1(n, "/x", "/g/y", api.ErrMiss), rename1(n, "/d/x", "/h/y", api.ErrMiss), rename1(n, "/h/y", "/x/y", api.ErrFile),
		rename1(n, "/d", "/d/x", api.ErrLoop), rename1(n, "/d", "/d/e", api.ErrLoop), rename1(n, "/d", "/d/e/x", api.ErrLoop), rename1(n, "/d", "/d/f/x", api.ErrLoop),
		rename1(n, "/d", "/d/x/y", api.ErrLoop), rename1(n, "/d/e", "/d/e/x", api.ErrLoop), rename1(n, "/d", "/d/f", api.ErrLoop),
		// Of a file there is no loop: it is in the way.
		rename1(n, "/g", "/g/x", api.ErrFile), rename1(n, "/g", "/g/x/y", api.ErrFile), rename1(n, "/d/f", "/d/f/x", api.ErrFile),
		rename1(n, "/g", "/x/y", api.ErrMiss), rename1(n, "/d", "/x/y", api.ErrMiss), rename1(n, "/d", "/g/y", api.ErrFile), rename1(n, "/g", "/h/y", api.ErrFile),
		rename1(n, "/d", "/g/x/y", api.ErrFile),
		rename1(n, "/g", "/d", api.ErrDir), rename1(n, "/g", "/d/e", api.ErrDir), rename1(n, "/d/f", "/d", api.ErrDir), rename1(n, "/h", "/i", api.ErrDir),
		rename1(n, "/d", "/g", api.ErrFile), rename1(n, "/d/e", "/d/f", api.ErrFile), rename1(n, "/i", "/h", api.ErrFile),
		rename1(n, "/d", "/i", api.ErrFull), rename1(n, "/i", "/d", api.ErrFull), rename1(n, "/d/e", "/d", api.ErrFull), rename1(n, "/d/e", "/i", api.ErrFull),
	}
	for _, path := range notPaths {
		l = append(l, rename1(n, path, "/y", api.ErrName), rename1(n, "/g", path, api.ErrName), rename1(n, "/x", path, api.ErrName), rename1(n, path, "/", api.ErrName), rename1(n, path, path, api.ErrName))
	}
	refuses(t, r, l)
}

// What is moved keeps its number, its size, and what is in it.
func TestRenameMoves(t *testing.T) {
	_, n := town(t)
	told(t, "Resize", n.Resize(4, 9), api.OK)
	moved(t, n, "/d", "/i/d", 0)
	lists(t, n, "/", "g", "h", "i")
	lists(t, n, "/i", "d")
	lists(t, n, "/i/d", "e", "f")
	looks(t, n, "/d", 0, api.ErrMiss)
	looks(t, n, "/i/d", 2, api.OK)
	looks(t, n, "/i/d/e", 3, api.OK)
	looks(t, n, "/i/d/f", 4, api.OK)
	knows(t, n, 4, file, 9, 2)
	moved(t, n, "/i/d/e", "/i/d/E", 0)
	lists(t, n, "/i/d", "E", "f")
	moved(t, n, "/g", "/i/d/E/g", 0)
	looks(t, n, "/i/d/E/g", 4, api.OK)
	knows(t, n, 4, file, 9, 2)
	knows(t, n, 2, directory, 0, 1)
	made(t, n, "/g", file, 7)
}

// What to named ahead loses that name: the answer is a file's number, if that was its last one.
func TestRenameReplaces(t *testing.T) {
	_, n := town(t)
	// The file of number 4 has two names, and loses one after the other.
	made(t, n, "/j", file, 7)
	moved(t, n, "/h", "/g", 0)
	knows(t, n, 4, file, 0, 1)
	looks(t, n, "/g", 5, api.OK)
	looks(t, n, "/h", 0, api.ErrMiss)
	moved(t, n, "/j", "/d/f", 4)
	gone(t, n, 4)
	looks(t, n, "/d/f", 7, api.OK)
	// An empty directory goes for another directory.
	moved(t, n, "/d", "/i", 0)
	gone(t, n, 6)
	looks(t, n, "/i", 2, api.OK)
	lists(t, n, "/i", "e", "f")
	lists(t, n, "/", "g", "i")
	told(t, "Rmdir", n.Rmdir("/i/e"), api.OK)
	made(t, n, "/k", directory, 8)
	made(t, n, "/i/e", directory, 9)
	moved(t, n, "/i/e", "/k", 0)
	gone(t, n, 8)
	looks(t, n, "/k", 9, api.OK)
	lists(t, n, "/i", "f")
	// A file of several names takes the place of another one: it has as many as ahead.
	linked(t, n, "/g", "/g2")
	linked(t, n, "/g", "/g3")
	moved(t, n, "/g2", "/i/f", 7)
	knows(t, n, 5, file, 0, 3)
	lists(t, n, "/", "g", "g3", "i", "k")
}

// If both are names of one file, or one path, nothing is done.
func TestRenameSame(t *testing.T) {
	r, n := town(t)
	told(t, "Resize", n.Resize(4, 9), api.OK)
	before := pairs(t, r)
	for _, x := range [][2]string{{"/g", "/d/f"}, {"/d/f", "/g"}, {"/g", "/g"}, {"/h", "/h"}, {"/d", "/d"}, {"/d/e", "/d/e"}, {"/i", "/i"}} {
		moved(t, n, x[0], x[1], 0)
		if !slices.Equal(pairs(t, r), before) {
			t.Error(x, "has changed the tree")
		}
	}
}

// deep is a path of so many names a.
func deep(n int) string {
	return strings.Repeat("/a", n)
}

// abyss has directories /a, /a/a, .. of so many names, and with them how many numbers were given.
func abyss(t *testing.T, most int) (*tree.Tree, *names.Names, int) {
	t.Helper()
	r, n := fresh(t)
	for i := range most {
		made(t, n, deep(i+1), directory, i+2)
	}
	return r, n, most + 1
}

// A path has ten names, and not one more.
func TestDeepest(t *testing.T) {
	r, n, last := abyss(t, 10)
	looks(t, n, deep(10), last, api.OK)
	lists(t, n, deep(9), "a")
	lists(t, n, deep(10))
	refuses(t, r, []refusal{
		make1(n, deep(11), file, api.ErrName), look1(n, deep(11), api.ErrName), rename1(n, deep(10), deep(11), api.ErrName),
		rename1(n, deep(1), "/b/a", api.ErrMiss), rename1(n, deep(9), deep(11), api.ErrName), link1(n, deep(10), "/x", api.ErrDir),
	})
	moved(t, n, deep(10), deep(9)+"/b", 0)
	made(t, n, deep(10), file, last+1)
	linked(t, n, deep(10), deep(9)+"/c")
	lists(t, n, deep(9), "a", "b", "c")
}

// ErrBig is answered if something below would have more than ten names, and only then.
func TestRenameTooDeep(t *testing.T) {
	for below := range 4 { // how many names are below the directory /b
		for kind := file; kind <= directory; kind++ {
			r, n, last := abyss(t, 9)
			path := "/b"
			made(t, n, path, directory, last+1)
			for i := range below {
				path += "/c"
				k := directory
				if i == below-1 {
					k = kind
				}
				made(t, n, path, k, last+2+i)
			}
			// What is beside, and less deep, says nothing.
			if below > 0 {
				made(t, n, "/b/a", file, last+2+below)
				made(t, n, "/b/d", directory, last+3+below)
			}
			for at := 9; at >= 0; at-- {
				to := deep(at) + "/x"
				if at+1+below > 10 {
					refuses(t, r, []refusal{rename1(n, "/b", to, api.ErrBig)})
					continue
				}
				moved(t, n, "/b", to, 0)
				looks(t, n, to+path[2:], last+1+below, api.OK)
				moved(t, n, to, "/b", 0)
			}
		}
	}
}

// ErrBig comes behind all that is said of what to names; where nothing is done it isn't asked.
func TestRenameTooDeepLast(t *testing.T) {
	r, n, last := abyss(t, 9)
	made(t, n, "/b", directory, last+1)
	made(t, n, "/b/c", file, last+2)
	made(t, n, deep(9)+"/f", file, last+3)
	made(t, n, deep(9)+"/e", directory, last+4)
	made(t, n, deep(8)+"/e", directory, last+5)
	made(t, n, deep(8)+"/e/f", file, last+6)
	refuses(t, r, []refusal{
		rename1(n, "/b", deep(9)+"/f", api.ErrFile), rename1(n, "/b", deep(9)+"/f/x", api.ErrName), rename1(n, "/b", deep(9)+"/e", api.ErrBig),
		rename1(n, "/b", deep(9)+"/x", api.ErrBig), rename1(n, "/b", deep(8)+"/e", api.ErrFull), rename1(n, "/b", deep(8)+"/x/y", api.ErrMiss),
		rename1(n, "/b", deep(8)+"/e/f/x", api.ErrName), rename1(n, "/b", deep(8)+"/e/f", api.ErrFile), rename1(n, "/b", "/b/c", api.ErrLoop),
	})
	// A file is never too deep.
	moved(t, n, "/b/c", deep(9)+"/x", 0)
	moved(t, n, "/b", deep(9)+"/e", 0)
	gone(t, n, last+4)
	looks(t, n, deep(9)+"/e", last+1, api.OK)
	moved(t, n, deep(1), deep(1), 0)
	moved(t, n, deep(9), deep(9), 0)
}
