package route_test

import (
	"slices"
	"strings"
	"testing"

	"cistern/api"
	"cistern/route"
)

// long is a name of the greatest length.
const long = "0123456789abcdef"

func told(t *testing.T, what string, got, want api.Errno) {
	t.Helper()
	if got != want {
		t.Errorf("%s: %d, not %d", what, got, want)
	}
}

func parses(t *testing.T, path string, names ...string) {
	t.Helper()
	if l, e := route.Parse(path); !slices.Equal(l, names) || e != api.OK {
		t.Errorf("Parse(%.99q): %q, %d", path, l, e)
	}
	if s, e := route.Join(names); s != path || e != api.OK {
		t.Errorf("Join(%q): %.99q, %d", names, s, e)
	}
}

// noPath asks of all calls what a text is that is no path.
func noPath(t *testing.T, path string) {
	t.Helper()
	if l, e := route.Parse(path); len(l) != 0 || e != api.ErrName {
		t.Errorf("Parse(%.99q): %q, %d", path, l, e)
	}
	if a, n, e := route.Parent(path); a != "" || n != "" || e != api.ErrName {
		t.Errorf("Parent(%.99q): %q, %q, %d", path, a, n, e)
	}
	for _, other := range []string{"/", "/a", "/a/b", path} {
		if u, e := route.Under(path, other); u || e != api.ErrName {
			t.Errorf("Under(%.99q, %.99q): %t, %d", path, other, u, e)
		}
		if u, e := route.Under(other, path); u || e != api.ErrName {
			t.Errorf("Under(%.99q, %.99q): %t, %d", other, path, u, e)
		}
	}
}

func parent(t *testing.T, path, above, name string) {
	t.Helper()
	if a, n, e := route.Parent(path); a != above || n != name || e != api.OK {
		t.Errorf("Parent(%q): %q, %q, %d", path, a, n, e)
	}
}

func under(t *testing.T, path, above string, want bool) {
	t.Helper()
	if u, e := route.Under(path, above); u != want || e != api.OK {
		t.Errorf("Under(%q, %q): %t, %d", path, above, u, e)
	}
}

func TestExamples(t *testing.T) {
	parses(t, "/a/b", "a", "b")
	parses(t, "/")
	for _, s := range []string{"", "a", "/a/", "//", "/.", "/a b"} {
		noPath(t, s)
	}
	parent(t, "/a/b", "/a", "b")
	parent(t, "/a", "/", "a")
	if a, n, e := route.Parent("/"); a != "" || n != "" || e != api.ErrName {
		t.Error(a, n, e)
	}
	under(t, "/a/b", "/a", true)
	under(t, "/a", "/a", false)
	under(t, "/ab", "/a", false)
}

// A name has 1 to 16 bytes from 21 to 7E, none a slash, and isn't one of the two of dots.
func TestNames(t *testing.T) {
	for b := range 256 {
		want := b >= 0x21 && b <= 0x7E && b != '/'
		for _, around := range []string{"", "a", "aaaaaaa", long[1:], ".", "é"} {
			for _, s := range []string{string([]byte{byte(b)}) + around, around + string([]byte{byte(b)})} {
				if ok := route.Name(s); ok != (want && s != "." && s != ".." && around != "é") {
					t.Errorf("Name(%q): %t", s, ok)
				}
			}
		}
	}
	for s, want := range map[string]bool{
		"": false, ".": false, "..": false, "...": true, ".a": true, "a.": true, ".a.": true, "..a": true,
		long: true, long + "g": false, strings.Repeat(".", 16): true, strings.Repeat(".", 17): false,
		strings.Repeat("a", 1<<20): false, "a\x00": false, "\x7f": false, "~": true, "!": true, " ": false, "\xff": false,
		"/a": false, "a/b": false, "a/": false, "/": false,
	} {
		if route.Name(s) != want {
			t.Errorf("Name(%.99q) isn't %t", s, want)
		}
	}
}

// reference tells a path's names, by the words of the chapter.
func reference(path string) ([]string, bool) {
	if path == "/" {
		return nil, true
	}
	l := strings.Split(path, "/")
	if l[0] != "" || len(l) < 2 || len(l) > 11 {
		return nil, false
	}
	for _, s := range l[1:] {
		odd := strings.ContainsFunc(s, func(r rune) bool { return r < '!' || r > '~' })
		if s == "" || s == "." || s == ".." || len(s) > 16 || odd {
			return nil, false
		}
	}
	return l[1:], true
}

// texts tells all texts of so many letters at most.
func texts(letters string, most int) []string {
	l := []string{""}
	for from := 0; most > 0; most-- {
		to := len(l)
		for _, s := range l[from:to] {
			for i := range len(letters) {
				l = append(l, s+letters[i:i+1])
			}
		}
		from = to
	}
	return l
}

// All short texts: Parse is as the reference, Join its inverse, Parent takes the last name away.
func TestAllShort(t *testing.T) {
	paths := 0
	for _, s := range texts("//a. \x7f~", 6) {
		l, ok := reference(s)
		if !ok {
			noPath(t, s)
			continue
		}
		paths++
		parses(t, s, l...)
		if len(l) == 0 {
			continue
		}
		above := strings.Join(l[:len(l)-1], "/")
		parent(t, s, "/"+above, l[len(l)-1])
	}
	if paths < 1000 {
		t.Errorf("only %d paths", paths)
	}
}

// All pairs of short paths: one lies under another one if it has its names, and more.
func TestUnder(t *testing.T) {
	var paths []string
	for _, s := range texts("/ab", 6) {
		if _, ok := reference(s); ok {
			paths = append(paths, s)
		}
	}
	met := 0
	for _, s := range paths {
		for _, above := range paths {
			// With a slash behind both a beginning is one of whole names.
			want := s != above && strings.HasPrefix(s+"/", strings.TrimSuffix(above, "/")+"/")
			under(t, s, above, want)
			if want {
				met++
			}
		}
	}
	if len(paths) < 50 || met < 100 {
		t.Errorf("%d paths, %d of two under each other", len(paths), met)
	}
	under(t, "/a", "/", true)
	under(t, "/", "/", false)
	under(t, "/", "/a", false)
	under(t, "/a/b/c", "/a/c", false)
	under(t, "/b/a", "/a", false)
	under(t, strings.Repeat("/"+long, 10), strings.Repeat("/"+long, 9), true)
	under(t, strings.Repeat("/"+long, 9), strings.Repeat("/"+long, 10), false)
}

// So many names, and not one more; so long ones, and no longer ones.
func TestEdges(t *testing.T) {
	for n := range 14 {
		names := slices.Repeat([]string{long}, n)
		path := strings.Repeat("/"+long, n)
		if n == 0 {
			path = "/"
		}
		if n <= 10 {
			parses(t, path, names...)
			if n > 0 {
				noPath(t, path+"/")
				noPath(t, path+"g")
			}
			continue
		}
		noPath(t, path)
		if s, e := route.Join(names); s != "" || e != api.ErrName {
			t.Errorf("Join of %d names: %q, %d", n, s, e)
		}
	}
	parent(t, strings.Repeat("/a", 10), strings.Repeat("/a", 9), "a")
	// Of no more than MaxPath bytes, but too many names; and of many more bytes.
	noPath(t, strings.Repeat("/a", 11))
	noPath(t, strings.Repeat("/a", 100))
	noPath(t, strings.Repeat("/", 200))
	noPath(t, strings.Repeat("/a", 1<<20))
	noPath(t, "/"+strings.Repeat("a", 1<<20))
	noPath(t, strings.Repeat("/", 1<<20))
	for _, s := range []string{"/a//b", "//a", "a/b", "/a/./b", "/a/../b", "/..", "/a\x00b", "/a\n", "/\xc3\xa9", " /a", "/a ", "\\a", "/" + long + "g/a"} {
		noPath(t, s)
	}
}

func TestJoinRefuses(t *testing.T) {
	for _, l := range [][]string{
		{""}, {"."}, {".."}, {"/"}, {"a", ""}, {"", "a"}, {"a/b"}, {"/a"}, {"a", "b "}, {"a", long + "g"},
		{"a", "b", "\x7f"}, {"\x00", "a"}, slices.Repeat([]string{"a"}, 11), slices.Repeat([]string{""}, 11),
		slices.Repeat([]string{"a"}, 1<<16),
	} {
		if s, e := route.Join(l); s != "" || e != api.ErrName {
			t.Errorf("Join(%.99q): %q, %d", l, s, e)
		}
	}
	for _, l := range [][]string{nil, {}} {
		s, e := route.Join(l)
		if s != "/" {
			t.Errorf("Join of none: %q", s)
		}
		told(t, "Join", e, api.OK)
	}
}

// What is handed in stays as it is, its spare room too; what is answered may be changed.
func TestNewMemory(t *testing.T) {
	l := append(make([]string, 0, 9), "a", "b", "c", "d")
	if s, e := route.Join(l[:2]); s != "/a/b" || e != api.OK {
		t.Error(s, e)
	}
	if !slices.Equal(l, []string{"a", "b", "c", "d"}) {
		t.Error(l)
	}
	first, _ := route.Parse("/a/b")
	spare := append(first, "x")
	first[0] = "y"
	parses(t, "/a/b", "a", "b")
	if second, _ := route.Parse("/a/b"); spare[2] != "x" || second[0] != "a" {
		t.Error(spare, second)
	}
}
