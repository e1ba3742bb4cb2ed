package names_test

import (
	"maps"
	"slices"
	"strconv"
	"testing"

	"cistern/api"
	"cistern/flash"
	"cistern/names"
	"cistern/page"
	"cistern/tree"
)

// torn is a tree on a device whose pages all stand in their places, so that each of them may be torn and mended.
type torn struct {
	t      *testing.T
	d      *flash.Device
	s      *page.Store
	r      *tree.Tree
	n      *names.Names
	places int // the sector of page 0
}

// wide makes names that stand in many pages.
func wide(t *testing.T) *torn {
	t.Helper()
	d, s, r := grove(t, 120)
	n := opened(t, r)
	ino := 1
	for _, dir := range []string{"/a", "/b", "/a/c", "/b/d", "/a/c/e"} {
		ino++
		made(t, n, dir, directory, ino)
		for i := range 7 {
			ino++
			made(t, n, dir+"/file"+strconv.Itoa(i), file, ino)
		}
		linked(t, n, dir+"/file0", dir+"/link")
	}
	for _, dir := range []string{"/empty", "/a/empty", "/b/d/empty", "/b/d/1", "/b/d/1/2", "/b/d/1/2/3", "/b/d/1/2/3/4", "/b/d/1/2/3/4/5"} {
		ino++
		made(t, n, dir, directory, ino)
	}
	told(t, "Commit", s.Commit(), api.OK)
	told(t, "Checkpoint", s.Checkpoint(), api.OK)
	return &torn{t, d, s, r, n, 2 + 121}
}

// tear makes a page unreadable; the answer mends it.
func (x *torn) tear(page int) func() {
	x.t.Helper()
	sector := x.places + page
	b, e := x.d.Read(sector)
	told(x.t, "Read", e, api.OK)
	told(x.t, "Write", x.d.Write(sector, make([]byte, api.Sector)), api.OK)
	x.d.Crash([]int{2})
	return func() {
		x.t.Helper()
		told(x.t, "Write", x.d.Write(sector, b), api.OK)
		told(x.t, "Flush", x.d.Flush(), api.OK)
	}
}

// picture tells all that names tell: by paths, the numbers and what is known of them, and the number that is given next.
func (x *torn) picture() map[string]names.Info {
	x.t.Helper()
	told(x.t, "Check", x.r.Check(), api.OK)
	again := opened(x.t, x.r)
	l := map[string]names.Info{}
	var down func(path string)
	down = func(path string) {
		ino, e := again.Look(path)
		told(x.t, "Look", e, api.OK)
		i, e := again.Info(ino)
		told(x.t, "Info", e, api.OK)
		l[path] = i
		if i.Kind == file {
			return
		}
		kids, e := again.List(path)
		told(x.t, "List", e, api.OK)
		if path == "/" {
			path = ""
		}
		for _, kid := range kids {
			down(path + "/" + kid)
		}
	}
	down("/")
	m := x.r.Mark()
	next, e := again.Make("/next", file)
	told(x.t, "Make", e, api.OK)
	told(x.t, "Back", x.r.Back(m), api.OK)
	l["/next"] = names.Info{Ino: next}
	return l
}

// deeds are calls, each with an answer as a text.
func (x *torn) deeds() []func() (string, api.Errno) {
	n := x.n
	number := func(i int, e api.Errno) (string, api.Errno) { return strconv.Itoa(i), e }
	plain := func(e api.Errno) (string, api.Errno) { return "0", e }
	list := func(path string) (string, api.Errno) {
		l, e := n.List(path)
		return "0" + strconv.Quote(string(rune(len(l)))), e
	}
	return []func() (string, api.Errno){
		func() (string, api.Errno) { return number(n.Look("/a/c/e/link")) },
		func() (string, api.Errno) { i, e := n.Info(25); return number(i.Links, e) },
		func() (string, api.Errno) { return list("/b/d") },
		func() (string, api.Errno) { return number(n.Make("/a/new", file)) },
		func() (string, api.Errno) { return number(n.Make("/b/d/new", directory)) },
		func() (string, api.Errno) { return plain(n.Link("/a/file3", "/b/new")) },
		func() (string, api.Errno) { return plain(n.Link("/b/d/file0", "/a/c/e/new")) },
		func() (string, api.Errno) { return number(n.Unlink("/b/file0")) },
		func() (string, api.Errno) { return number(n.Unlink("/b/file1")) },
		func() (string, api.Errno) { return number(n.Unlink("/a/c/e/file6")) },
		func() (string, api.Errno) { return plain(n.Rmdir("/empty")) },
		func() (string, api.Errno) { return plain(n.Rmdir("/b/d/empty")) },
		func() (string, api.Errno) { return plain(n.Rmdir("/a/c")) },
		func() (string, api.Errno) { return plain(n.Resize(33, 99)) },
		func() (string, api.Errno) { return number(n.Rename("/a/file1", "/b/d/new")) },
		func() (string, api.Errno) { return number(n.Rename("/a/c/e/file1", "/b/file1")) },
		func() (string, api.Errno) { return number(n.Rename("/b/d/link", "/a/link")) },
		func() (string, api.Errno) { return number(n.Rename("/a/c/e/link", "/a/c/e/file0")) },
		func() (string, api.Errno) { return number(n.Rename("/a/c", "/b/d/empty")) },
		func() (string, api.Errno) { return number(n.Rename("/b", "/a/c/e/new")) },
		func() (string, api.Errno) { return number(n.Rename("/b/d/empty", "/empty")) },
		func() (string, api.Errno) { return number(n.Rename("/a/c", "/b/d")) },
		func() (string, api.Errno) { return number(n.Rename("/a", "/b/d/1/2/3/4/5/8")) },
	}
}

// Each page is torn at each call: what can't be read is told, and nothing is done; or all is done that is to be done.
func TestTornPages(t *testing.T) {
	t.Parallel()
	x := wide(t)
	none, unread, done := x.picture(), 0, 0
	start := x.r.Mark()
	for i, deed := range x.deeds() {
		want, wanted := deed()
		changed := x.picture()
		told(t, "Back", x.r.Back(start), api.OK)
		for p := range x.s.Pages() {
			if text, _ := x.s.Get(p); text == "" {
				continue
			}
			mend := x.tear(p)
			got, e := deed()
			mend()
			switch after := x.picture(); {
			case e == api.ErrTorn:
				unread++
				if got[:1] != "0" || !maps.Equal(after, none) {
					t.Errorf("call %d with page %d torn: %q, and something is changed", i, p, got)
				}
			case got != want || e != wanted || !maps.Equal(after, changed):
				t.Errorf("call %d with page %d torn: %q, %d, not %q, %d", i, p, got, e, want, wanted)
			default:
				done++
			}
			told(t, "Back", x.r.Back(start), api.OK)
		}
		if t.Failed() {
			t.FailNow()
		}
	}
	if unread < 100 || done < 100 {
		t.Errorf("%d calls were refused, %d were done", unread, done)
	}
}

// New of a tree of which a page can't be read tells so, and there are no names.
func TestTornNew(t *testing.T) {
	x := wide(t)
	refused := 0
	before := pairs(t, x.r)
	for p := range x.s.Pages() {
		mend := x.tear(p)
		n, e := names.New(x.r)
		mend()
		if e == api.ErrTorn && n == nil {
			refused++
		} else if e != api.OK || n == nil {
			t.Errorf("page %d torn: %v, %d", p, n, e)
		}
		if !slices.Equal(pairs(t, x.r), before) {
			t.Error("New has changed the tree")
		}
	}
	if refused < 5 {
		t.Errorf("%d pages can't be left away", refused)
	}
}
