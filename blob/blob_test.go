package blob_test

import (
	"math"
	"slices"
	"strings"
	"testing"

	"cistern/api"
	"cistern/blob"
)

// is asks for an error.
func is(t *testing.T, e, want api.Errno) {
	t.Helper()
	if e != want {
		t.Errorf("error %d, not %d", e, want)
	}
}

// holds asks what a blob holds.
func holds(t *testing.T, s *blob.Store, name, want string) {
	t.Helper()
	if b, e := s.Get(name); e != api.OK || string(b) != want {
		t.Errorf("%s: %q %d, not %q", name, b, e, want)
	}
}

// fails asks that a blob isn't told, and that there are no bytes beside the error.
func fails(t *testing.T, s *blob.Store, name string, want api.Errno) {
	t.Helper()
	if b, e := s.Get(name); e != want || len(b) != 0 {
		t.Errorf("%s: %q %d, not %d", name, b, e, want)
	}
}

// rooted asks for the root.
func rooted(t *testing.T, s *blob.Store, version int, name string, want api.Errno) {
	t.Helper()
	if v, n, e := s.Root(); v != version || n != name || e != want {
		t.Errorf("root %d %q %d, not %d %q %d", v, n, e, version, name, want)
	}
}

// listed asks for all names.
func listed(t *testing.T, s *blob.Store, want ...string) {
	t.Helper()
	if l, e := s.List(); e != api.OK || !slices.Equal(l, want) {
		t.Errorf("names %q %d, not %q", l, e, want)
	}
}

// called asks how many calls were counted.
func called(t *testing.T, s *blob.Store, want int) {
	t.Helper()
	if n := s.Calls(); n != want {
		t.Errorf("%d calls, not %d", n, want)
	}
}

func TestName(t *testing.T) {
	good := []string{"a", "z", "0", "9", "-", "--", "m-3-17", "abcxyz-0189", strings.Repeat("a", 40)}
	for _, n := range good {
		if !blob.Name(n) {
			t.Errorf("%q is a name", n)
		}
	}
	bad := []string{
		"", strings.Repeat("a", 41), "A", "Z", "a b", " a", "a ", "a/b", "a_b", "a.b", "a:b", "a`b", "a{b", "a,b",
		"a\x00", "\xff", "\u00e4", "a\n", "aA", "aaaaaaaaa_",
	}
	for _, n := range bad {
		if blob.Name(n) {
			t.Errorf("%q is no name", n)
		}
	}
	for c := range 256 {
		want := strings.IndexByte("abcdefghijklmnopqrstuvwxyz0123456789-", byte(c)) >= 0
		if blob.Name(string([]byte{byte(c)})) != want || blob.Name(string([]byte{'a', byte(c)})) != want {
			t.Error("byte", c)
		}
	}
}

func TestNew(t *testing.T) {
	s := blob.New()
	called(t, s, 0)
	listed(t, s)
	rooted(t, s, 0, "", api.OK)
	fails(t, s, "a", api.ErrMiss)
	called(t, s, 3)
	is(t, blob.New().Put("a", []byte("x")), api.OK)
	listed(t, s)
}

func TestFirstExample(t *testing.T) {
	s := blob.New()
	is(t, s.Put("a", []byte("x")), api.OK)
	holds(t, s, "a", "x")
	s.Script([]int{1})
	is(t, s.Put("a", []byte("y")), api.ErrRemote)
	holds(t, s, "a", "x")
	s.Script([]int{2})
	is(t, s.Put("a", []byte("y")), api.ErrRemote)
	holds(t, s, "a", "y")
	fails(t, s, "b", api.ErrMiss)
	is(t, s.Put("A", []byte("x")), api.ErrName)
	is(t, s.Put("", []byte("x")), api.ErrName)
}

func TestSecondExample(t *testing.T) {
	s := blob.New()
	is(t, s.Swap(0, "a"), api.OK)
	rooted(t, s, 1, "a", api.OK)
	is(t, s.Swap(0, "b"), api.ErrRoot)
	rooted(t, s, 1, "a", api.OK)
	s.Script([]int{2})
	is(t, s.Swap(1, "b"), api.ErrRemote)
	rooted(t, s, 2, "b", api.OK)
}

func TestPutAndGet(t *testing.T) {
	s := blob.New()
	for _, n := range []int{0, 1, 255, 59999, 60000} {
		b := slices.Repeat([]byte{'b'}, n)
		is(t, s.Put("a", b), api.OK)
		holds(t, s, "a", string(b))
	}
	is(t, s.Put("a", nil), api.OK)
	holds(t, s, "a", "")
	is(t, s.Put("a", []byte("kept")), api.OK)
	is(t, s.Put("a", make([]byte, 60001)), api.ErrBig)
	holds(t, s, "a", "kept")
	is(t, s.Put("b", []byte{0, 255, 0}), api.OK)
	holds(t, s, "b", "\x00\xff\x00")
	holds(t, s, "a", "kept")
}

func TestDelete(t *testing.T) {
	s := blob.New()
	is(t, s.Delete("a"), api.OK)
	is(t, s.Put("a", []byte("x")), api.OK)
	is(t, s.Put("b", []byte("y")), api.OK)
	s.Script([]int{1})
	is(t, s.Delete("a"), api.ErrRemote)
	holds(t, s, "a", "x")
	is(t, s.Delete("a"), api.OK)
	fails(t, s, "a", api.ErrMiss)
	is(t, s.Delete("a"), api.OK)
	s.Script([]int{2})
	is(t, s.Delete("b"), api.ErrRemote)
	fails(t, s, "b", api.ErrMiss)
	listed(t, s)
}

func TestList(t *testing.T) {
	s := blob.New()
	for _, n := range []string{"b", "ab", "a-", "z", "a0", "10", "9", "-", "a", "aa"} {
		is(t, s.Put(n, nil), api.OK)
	}
	listed(t, s, "-", "10", "9", "a", "a-", "a0", "aa", "ab", "b", "z")
	is(t, s.Put("a", []byte("x")), api.OK)
	is(t, s.Delete("9"), api.OK)
	listed(t, s, "-", "10", "a", "a-", "a0", "aa", "ab", "b", "z")
	s.Script([]int{1, 2})
	for range 2 {
		if l, e := s.List(); len(l) != 0 || e != api.ErrRemote {
			t.Error(l, e)
		}
	}
}

func TestRoot(t *testing.T) {
	s := blob.New()
	for _, v := range []int{1, -1, math.MaxInt, math.MinInt} {
		is(t, s.Swap(v, "a"), api.ErrRoot)
	}
	rooted(t, s, 0, "", api.OK)
	for v := range 5 {
		is(t, s.Swap(v, "m-1-1"), api.OK)
		rooted(t, s, v+1, "m-1-1", api.OK)
	}
	s.Script([]int{1, 0, 2, 0, 1, 2})
	is(t, s.Swap(5, "b"), api.ErrRemote)
	rooted(t, s, 5, "m-1-1", api.OK)
	is(t, s.Swap(4, "b"), api.ErrRemote)
	rooted(t, s, 5, "m-1-1", api.OK)
	rooted(t, s, 0, "", api.ErrRemote)
	rooted(t, s, 0, "", api.ErrRemote)
	rooted(t, s, 5, "m-1-1", api.OK)
	is(t, s.Delete("m-1-1"), api.OK)
	rooted(t, s, 5, "m-1-1", api.OK)
	listed(t, s)
}

func TestOutcomesByTheirRest(t *testing.T) {
	rest := []struct{ outcome, want int }{
		{0, 0}, {3, 0}, {-3, 0}, {1, 1}, {4, 1}, {-2, 1}, {-5, 1}, {2, 2}, {5, 2}, {-1, 2}, {-4, 2},
		{math.MaxInt, 1}, {math.MinInt, 1}, {math.MinInt + 1, 2},
	}
	for _, c := range rest {
		s := blob.New()
		s.Script([]int{c.outcome})
		e := s.Put("a", []byte("x"))
		l, _ := s.List()
		if (e == api.OK) != (c.want == 0) || (len(l) == 1) != (c.want != 1) {
			t.Error(c.outcome, e, l)
		}
	}
}

// The first outcome is taken by the first call that isn't refused; all kinds of calls take one.
func TestScriptInOrder(t *testing.T) {
	s := blob.New()
	s.Script([]int{0, 1})
	s.Script(nil)
	s.Script([]int{2, 1, 0})
	is(t, s.Put("A", nil), api.ErrName)
	is(t, s.Put("a", make([]byte, 60001)), api.ErrBig)
	fails(t, s, "", api.ErrName)
	is(t, s.Delete("_"), api.ErrName)
	is(t, s.Swap(0, ""), api.ErrName)
	called(t, s, 0)
	is(t, s.Put("a", []byte("x")), api.OK)
	fails(t, s, "a", api.ErrRemote)
	fails(t, s, "a", api.ErrRemote)
	rooted(t, s, 0, "", api.ErrRemote)
	listed(t, s, "a")
	called(t, s, 5)
	listed(t, s, "a")
	s.Script([]int{1, 1, 1, 1, 1, 1})
	is(t, s.Put("b", nil), api.ErrRemote)
	fails(t, s, "a", api.ErrRemote)
	is(t, s.Delete("a"), api.ErrRemote)
	if l, e := s.List(); len(l) != 0 || e != api.ErrRemote {
		t.Error(l, e)
	}
	rooted(t, s, 0, "", api.ErrRemote)
	is(t, s.Swap(0, "a"), api.ErrRemote)
	rooted(t, s, 0, "", api.OK)
	listed(t, s, "a")
	called(t, s, 14)
}

func TestErrorsInOrder(t *testing.T) {
	s := blob.New()
	is(t, s.Put("A", make([]byte, 60001)), api.ErrName)
	s.Script([]int{1, 2, 1, 2})
	fails(t, s, "none", api.ErrRemote)
	fails(t, s, "none", api.ErrRemote)
	is(t, s.Swap(7, "a"), api.ErrRemote)
	is(t, s.Swap(7, "a"), api.ErrRemote)
	fails(t, s, "none", api.ErrMiss)
	is(t, s.Swap(7, "a"), api.ErrRoot)
	is(t, s.Swap(7, "A"), api.ErrName)
	called(t, s, 6)
}

func TestNoMemoryIsShared(t *testing.T) {
	s := blob.New()
	room := []byte("abcxy")
	is(t, s.Put("a", room[:3]), api.OK)
	if string(room) != "abcxy" {
		t.Errorf("spare room is changed: %q", room)
	}
	clear(room)
	holds(t, s, "a", "abc")
	b, _ := s.Get("a")
	clear(b)
	_ = append(b[:0], "zzz"...)
	holds(t, s, "a", "abc")
	is(t, s.Put("b", nil), api.OK)
	l, _ := s.List()
	l[0], l[1] = "x", "y"
	_ = append(l[:1], "z")
	listed(t, s, "a", "b")
	script := []int{0, 1, 0, 9, 9}
	s.Script(script[:3])
	s.Script([]int{1})
	if !slices.Equal(script, []int{0, 1, 0, 9, 9}) {
		t.Error("the script is changed", script)
	}
	clear(script)
	holds(t, s, "a", "abc")
	fails(t, s, "a", api.ErrRemote)
	holds(t, s, "a", "abc")
	fails(t, s, "a", api.ErrRemote)
	holds(t, s, "a", "abc")
}

func TestNil(t *testing.T) {
	var s *blob.Store
	s.Script(nil)
	s.Script([]int{1, 2})
	called(t, s, 0)
	for _, n := range []string{"a", "A", ""} {
		is(t, s.Put(n, nil), api.ErrArg)
		is(t, s.Put(n, make([]byte, 60001)), api.ErrArg)
		fails(t, s, n, api.ErrArg)
		is(t, s.Delete(n), api.ErrArg)
		is(t, s.Swap(0, n), api.ErrArg)
	}
	if l, e := s.List(); len(l) != 0 || e != api.ErrArg {
		t.Error(l, e)
	}
	rooted(t, s, 0, "", api.ErrArg)
}

// A store that New didn't make is an empty one.
func TestZero(t *testing.T) {
	s := new(blob.Store)
	listed(t, s)
	is(t, s.Delete("a"), api.OK)
	fails(t, s, "a", api.ErrMiss)
	is(t, s.Put("a", []byte("x")), api.OK)
	holds(t, s, "a", "x")
	is(t, s.Swap(0, "a"), api.OK)
	rooted(t, s, 1, "a", api.OK)
}
