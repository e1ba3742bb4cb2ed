package names_test

import (
	"math"
	"slices"
	"strings"
	"testing"

	"cistern/api"
	"cistern/names"
	"cistern/tree"
)

// count is how a size stands in a value, and how many names there are.
func count(n int) string {
	return string([]byte{byte(n >> 24), byte(n >> 16), byte(n >> 8), byte(n)})
}

// given is how the greatest number that was given stands in the root's value.
func given(n int) string {
	return count(n>>32) + count(n)
}

// num is how the number of a thing stands in a key or a value: no bytes more than it takes.
func num(n int) string {
	b := strings.TrimLeft(given(n), "\x00")
	return string([]byte{byte(len(b))}) + b
}

func thing(ino int) string {
	return "nt" + num(ino)
}

func name(dir int, s string) string {
	return "nn" + num(dir) + s
}

// village is a tree with /a, a directory, /a/f and /g, one file of 9 bytes, /a/b, an empty directory; 6 was the number
// of what is gone.
func village(t *testing.T) *tree.Tree {
	t.Helper()
	r, n := fresh(t)
	made(t, n, "/a", directory, 2)
	made(t, n, "/a/f", file, 3)
	made(t, n, "/a/b", directory, 4)
	made(t, n, "/x", file, 5)
	made(t, n, "/y", file, 6)
	linked(t, n, "/a/f", "/g")
	unlinked(t, n, "/x", 5)
	unlinked(t, n, "/y", 6)
	told(t, "Resize", n.Resize(3, 9), api.OK)
	return r
}

// refused asks New for names in a tree that has none: that changes nothing.
func refused(t *testing.T, what string, r *tree.Tree) {
	t.Helper()
	before := pairs(t, r)
	if n, e := names.New(r); n != nil || e != api.ErrForm {
		t.Errorf("%s: %v, %d", what, n, e)
	}
	if !slices.Equal(pairs(t, r), before) {
		t.Errorf("%s: New has changed the tree", what)
	}
}

// What is kept is as the package says, so that the tests below alter what they mean to.
func TestKept(t *testing.T) {
	r := village(t)
	want := []api.Pair{
		{Key: name(1, "a"), Val: num(2)}, {Key: name(1, "g"), Val: num(3)}, {Key: name(2, "b"), Val: num(4)}, {Key: name(2, "f"), Val: num(3)},
		{Key: thing(1), Val: "d" + given(6)}, {Key: thing(2), Val: "d"}, {Key: thing(3), Val: "f" + count(9) + count(2)}, {Key: thing(4), Val: "d"},
	}
	if l := pairs(t, r); !slices.Equal(l, want) {
		t.Errorf("%q", l)
	}
}

// Without any one of its pairs, or with any one of them cut, longer, or of another key, a tree's keys aren't names.
func TestEachPairCounts(t *testing.T) {
	for _, p := range pairs(t, village(t)) {
		r := village(t)
		told(t, "Drop", r.Drop(p.Key), api.OK)
		refused(t, "without a pair", r)
		for _, key := range []string{p.Key[:len(p.Key)-1], p.Key[:2], p.Key[:1], p.Key + "\x00", p.Key + "/", p.Key + " ", p.Key + strings.Repeat("z", 16), "n" + p.Key, "nA" + p.Key[2:], "n\xff" + p.Key} {
			r := village(t)
			told(t, "Put", r.Put(key, p.Val), api.OK)
			refused(t, "with one more pair", r)
			told(t, "Drop", r.Drop(p.Key), api.OK)
			refused(t, "with another key", r)
		}
		for _, val := range []string{p.Val[:len(p.Val)-1], "", p.Val + "\x00", p.Val + num(1), "\x00" + p.Val, "x" + p.Val[1:], "f" + count(0), count(0), count(9), num(0), num(9), "f" + count(0) + count(9), "f" + count(0) + count(0), "d" + count(6), "D"} {
			r := village(t)
			told(t, "Put", r.Put(p.Key, val), api.OK)
			refused(t, "with another value", r)
		}
	}
}

// altered is what is put into a village, or dropped (where the value is "-").
type altered struct {
	what  string
	pairs []api.Pair
	ok    bool
}

func TestForm(t *testing.T) {
	f := func(size, links int) string { return "f" + count(size) + count(links) }
	long := "0123456789abcdef"
	for _, x := range []altered{
		{"as it is", nil, true},
		{"another name of a file", []api.Pair{{Key: name(4, "x"), Val: num(3)}, {Key: thing(3), Val: f(9, 3)}}, true},
		{"another name of a file that doesn't count it", []api.Pair{{Key: name(4, "x"), Val: num(3)}}, false},
		{"a file that counts one name less", []api.Pair{{Key: thing(3), Val: f(9, 1)}}, false},
		{"a file that counts one name more", []api.Pair{{Key: thing(3), Val: f(9, 3)}}, false},
		{"a new file", []api.Pair{{Key: name(4, "x"), Val: num(5)}, {Key: thing(5), Val: f(0, 1)}}, true},
		{"something without a name that is nothing", []api.Pair{{Key: thing(5), Val: "x"}}, false},
		{"a name of what is no number", []api.Pair{{Key: name(4, "x"), Val: "x"}}, false},
		{"a name of no bytes of a number", []api.Pair{{Key: name(4, "x"), Val: ""}}, false},
		{"a new file without a name", []api.Pair{{Key: thing(5), Val: f(0, 0)}}, false},
		{"a new file with a name that isn't there", []api.Pair{{Key: thing(5), Val: f(0, 1)}}, false},
		{"the greatest number that was given", []api.Pair{{Key: name(4, "x"), Val: num(6)}, {Key: thing(6), Val: f(0, 1)}}, true},
		{"a number that was never given", []api.Pair{{Key: name(4, "x"), Val: num(7)}, {Key: thing(7), Val: f(0, 1)}}, false},
		{"the number 0", []api.Pair{{Key: name(4, "x"), Val: num(0)}, {Key: thing(0), Val: f(0, 1)}}, false},
		{"a directory of the number 0", []api.Pair{{Key: name(4, "x"), Val: num(0)}, {Key: thing(0), Val: "d"}}, false},
		{"the greatest size", []api.Pair{{Key: thing(3), Val: f(1<<30, 2)}}, true},
		{"more than the greatest size", []api.Pair{{Key: thing(3), Val: f(1<<30+1, 2)}}, false},
		{"the most of sizes", []api.Pair{{Key: thing(3), Val: f(1<<32-1, 2)}}, false},
		{"a name of nothing", []api.Pair{{Key: name(4, "x"), Val: num(5)}}, false},
		{"a name in nothing", []api.Pair{{Key: name(5, "x"), Val: num(6)}, {Key: thing(6), Val: f(0, 1)}}, false},
		{"a name in a file", []api.Pair{{Key: name(3, "x"), Val: num(6)}, {Key: thing(6), Val: f(0, 1)}}, false},
		{"a name of a file in a file", []api.Pair{{Key: name(3, "x"), Val: num(3)}, {Key: thing(3), Val: f(9, 3)}}, false},
		{"a second name of a directory", []api.Pair{{Key: name(1, "x"), Val: num(4)}}, false},
		{"a name of the root", []api.Pair{{Key: name(4, "x"), Val: num(1)}}, false},
		{"a directory in itself", []api.Pair{{Key: name(4, "x"), Val: num(4)}}, false},
		{"a directory in itself alone", []api.Pair{{Key: name(5, "x"), Val: num(5)}, {Key: thing(5), Val: "d"}}, false},
		{"two directories in each other", []api.Pair{{Key: name(5, "x"), Val: num(6)}, {Key: name(6, "x"), Val: num(5)}, {Key: thing(5), Val: "d"}, {Key: thing(6), Val: "d"}}, false},
		{"a file in a directory in itself", []api.Pair{{Key: name(5, "x"), Val: num(5)}, {Key: name(5, "y"), Val: num(3)}, {Key: thing(3), Val: f(9, 3)}, {Key: thing(5), Val: "d"}}, false},
		{"a directory that isn't empty", []api.Pair{{Key: name(4, "x"), Val: num(5)}, {Key: name(5, "y"), Val: num(6)}, {Key: thing(5), Val: "d"}, {Key: thing(6), Val: "d"}}, true},
		{"a directory that is like a file", []api.Pair{{Key: thing(4), Val: f(0, 1)}}, true},
		{"a directory with names that is like a file", []api.Pair{{Key: thing(2), Val: f(0, 1)}}, false},
		{"a file that is like a directory", []api.Pair{{Key: thing(3), Val: "d"}}, false},
		{"a file of one name that is like a directory", []api.Pair{{Key: thing(3), Val: "d"}, {Key: name(1, "g"), Val: "-"}}, true},
		{"a root that is a file", []api.Pair{{Key: thing(1), Val: f(0, 1)}}, false},
		{"a root that gave nothing", []api.Pair{{Key: thing(1), Val: "d"}}, false},
		{"a root that gave less", []api.Pair{{Key: thing(1), Val: "d" + given(3)}}, false},
		{"a root that gave just what is there", []api.Pair{{Key: thing(1), Val: "d" + given(4)}}, true},
		{"a root that gave many", []api.Pair{{Key: thing(1), Val: "d" + given(1<<31-1)}}, true},
		{"a root that gave the most", []api.Pair{{Key: thing(1), Val: "d" + given(mostGiven)}}, true},
		{"a root that gave more", []api.Pair{{Key: thing(1), Val: "d" + given(mostGiven+1)}}, false},
		{"a root that gave all", []api.Pair{{Key: thing(1), Val: "d" + given(math.MaxInt)}}, false},
		{"a root that gave less than nothing", []api.Pair{{Key: thing(1), Val: "d" + given(-1)}}, false},
		{"a root that gave the least", []api.Pair{{Key: thing(1), Val: "d" + given(math.MinInt)}}, false},
		{"a root that gave a number of four bytes", []api.Pair{{Key: thing(1), Val: "d" + count(6)}}, false},
		{"a root that gave a number of nine bytes", []api.Pair{{Key: thing(1), Val: "d\x00" + given(6)}}, false},
		{"numbers of four bytes", []api.Pair{{Key: thing(1), Val: "-"}, {Key: "nt" + count(1), Val: "d" + given(6)}}, false},
		{"a number with a nought at its front", []api.Pair{{Key: name(4, "x"), Val: "\x02\x00\x05"}, {Key: "nt\x02\x00\x05", Val: f(0, 1)}}, false},
		{"a number with a nought at its front in a key alone", []api.Pair{{Key: name(4, "x"), Val: num(5)}, {Key: "nt\x02\x00\x05", Val: f(0, 1)}}, false},
		{"a number with a nought at its front in a name's value alone", []api.Pair{{Key: name(4, "x"), Val: "\x02\x00\x05"}, {Key: thing(5), Val: f(0, 1)}}, false},
		{"a number with a nought at its front in a name's key", []api.Pair{{Key: "nn\x02\x00\x04x", Val: num(5)}, {Key: thing(5), Val: f(0, 1)}}, false},
		{"a number with bytes behind it in a name's value", []api.Pair{{Key: name(4, "x"), Val: num(5) + "x"}, {Key: thing(5), Val: f(0, 1)}}, false},
		{"a number with bytes behind it in a key", []api.Pair{{Key: name(4, "x"), Val: num(5)}, {Key: thing(5) + "x", Val: f(0, 1)}}, false},
		{"a number that ends early", []api.Pair{{Key: name(4, "x"), Val: "\x02\x05"}, {Key: "nt\x02\x05", Val: f(0, 1)}}, false},
		{"a number of nine bytes", []api.Pair{{Key: name(4, "x"), Val: "\x09\x01" + given(5)}, {Key: "nt\x09\x01" + given(5), Val: f(0, 1)}}, false},
		{"a number below nothing", []api.Pair{{Key: name(4, "x"), Val: num(-5)}, {Key: thing(-5), Val: f(0, 1)}}, false},
		{"a directory below nothing", []api.Pair{{Key: name(4, "x"), Val: num(-5)}, {Key: thing(-5), Val: "d"}}, false},
		{"a root that gave 0", []api.Pair{{Key: thing(1), Val: "d" + given(0)}}, false},
		{"another directory that gave numbers", []api.Pair{{Key: thing(4), Val: "d" + given(6)}}, false},
		{"a name of 16 bytes", []api.Pair{{Key: name(4, long), Val: num(3)}, {Key: thing(3), Val: f(9, 3)}}, true},
		{"a name of 17 bytes", []api.Pair{{Key: name(4, long+"g"), Val: num(3)}, {Key: thing(3), Val: f(9, 3)}}, false},
		{"a name of no bytes", []api.Pair{{Key: name(4, ""), Val: num(3)}, {Key: thing(3), Val: f(9, 3)}}, false},
		{"a name that is none", []api.Pair{{Key: name(4, ".."), Val: num(3)}, {Key: thing(3), Val: f(9, 3)}}, false},
		{"a name with a slash", []api.Pair{{Key: name(4, "a/b"), Val: num(3)}, {Key: thing(3), Val: f(9, 3)}}, false},
		{"a key of one letter", []api.Pair{{Key: "n", Val: ""}}, false},
		{"other keys", []api.Pair{{Key: "m", Val: "1"}, {Key: "m\xff", Val: "n"}, {Key: "o", Val: num(1)}, {Key: "N", Val: ""}, {Key: "x", Val: thing(1)}, {Key: "b", Val: ""}, {Key: "\x00", Val: ""}, {Key: "\xff", Val: ""}}, true},
	} {
		r := village(t)
		for _, p := range x.pairs {
			if p.Val == "-" {
				told(t, "Drop", r.Drop(p.Key), api.OK)
			} else {
				told(t, "Put", r.Put(p.Key, p.Val), api.OK)
			}
		}
		if !x.ok {
			refused(t, x.what, r)
			continue
		}
		before := pairs(t, r)
		if _, e := names.New(r); e != api.OK || !slices.Equal(pairs(t, r), before) {
			t.Errorf("%s: %d", x.what, e)
		}
	}
}

// mostGiven is the greatest number that may have been given in a tree: there are as many left as a program has steps.
const mostGiven = math.MaxInt - (1<<31 - 1)

// Numbers of all lengths are numbers.
func TestGreatNumbers(t *testing.T) {
	for _, most := range []int{7, 127, 128, 255, 256, 257, 1<<16 - 1, 1 << 16, 1<<31 - 1, 1 << 31, 1<<32 - 1, 1 << 32, 1<<56 - 1, 1 << 56, mostGiven} {
		r := village(t)
		for _, p := range []api.Pair{{Key: thing(1), Val: "d" + given(most)}, {Key: thing(most), Val: "f" + count(5) + count(1)}, {Key: name(4, "x"), Val: num(most)}} {
			told(t, "Put", r.Put(p.Key, p.Val), api.OK)
		}
		n := opened(t, r)
		knows(t, n, most, file, 5, 1)
		looks(t, n, "/a/b/x", most, api.OK)
		told(t, "Resize", n.Resize(most, 6), api.OK)
		knows(t, n, most, file, 6, 1)
		gone(t, n, most+1, most-1)
	}
}

// lives does something with new files and directories in names in which so many numbers were given.
func lives(t *testing.T, n *names.Names, most int) {
	t.Helper()
	made(t, n, "/a", file, most+1)
	looks(t, n, "/a", most+1, api.OK)
	looks(t, n, "/", 1, api.OK)
	knows(t, n, most+1, file, 0, 1)
	made(t, n, "/d", directory, most+2)
	made(t, n, "/d/e", directory, most+3)
	made(t, n, "/d/f", file, most+4)
	lists(t, n, "/d", "e", "f")
	linked(t, n, "/d/f", "/d/e/g")
	told(t, "Resize", n.Resize(most+4, 77), api.OK)
	knows(t, n, most+4, file, 77, 2)
	moved(t, n, "/d/e/g", "/a", most+1)
	gone(t, n, most+1, most+5)
	moved(t, n, "/d", "/b", 0)
	looks(t, n, "/b/e", most+3, api.OK)
	told(t, "Rmdir", n.Rmdir("/b/e"), api.OK)
	unlinked(t, n, "/b/f", 0)
	unlinked(t, n, "/a", most+4)
	made(t, n, "/b/h", file, most+5)
	lists(t, n, "/", "b")
}

// However many numbers were given in a tree that is taken for names, there are more, and all calls answer for them.
func TestNumbersGoOn(t *testing.T) {
	for _, most := range []int{1, 2, 125, 126, 127, 253, 254, 255, 1<<16 - 3, 1<<31 - 3, 1<<31 - 2, 1<<31 - 1, 1 << 31, 1<<32 - 5, 1<<32 - 2, 1<<32 - 1, 1 << 32, 1<<56 - 2, 1 << 62, mostGiven - 4, mostGiven} {
		_, _, r := grove(t, 60)
		told(t, "Put", r.Put(thing(1), "d"+given(most)), api.OK)
		n := opened(t, r)
		lives(t, n, most)
		if most < mostGiven-4 {
			n = opened(t, r)
		}
		looks(t, n, "/b/h", most+5, api.OK)
		made(t, n, "/c", file, most+6)
	}
}

// chain puts directories in each other into a new tree, so many from the root on, and in the last of them a name of what
// is told.
func chain(t *testing.T, n int, val string) *tree.Tree {
	t.Helper()
	_, _, r := grove(t, 300)
	told(t, "Put", r.Put(thing(1), "d"+given(n+2)), api.OK)
	for i := range n {
		told(t, "Put", r.Put(thing(i+2), "d"), api.OK)
		told(t, "Put", r.Put(name(i+1, "a"), num(i+2)), api.OK)
	}
	if val != "" {
		told(t, "Put", r.Put(thing(n+2), val), api.OK)
		told(t, "Put", r.Put(name(n+1, "a"), num(n+2)), api.OK)
	}
	return r
}

// A path has ten names, in what is found in a tree too.
func TestFormDeep(t *testing.T) {
	for _, val := range []string{"d", "f" + count(0) + count(1)} {
		if _, e := names.New(chain(t, 9, val)); e != api.OK {
			t.Errorf("ten names: %d", e)
		}
		refused(t, "eleven names", chain(t, 10, val))
		refused(t, "twelve names", chain(t, 11, val))
		refused(t, "many names", chain(t, 60, val))
	}
}

// However many directories are in each other, and however often, New ends.
func TestFormWeb(t *testing.T) {
	_, _, r := grove(t, 300)
	told(t, "Put", r.Put(thing(1), "d"+given(40)), api.OK)
	for i := 2; i <= 20; i++ {
		told(t, "Put", r.Put(thing(i), "d"), api.OK)
		for above := 1; above <= 20; above++ {
			told(t, "Put", r.Put(name(above, "a"+string([]byte{byte(64 + i)})), num(i)), api.OK)
		}
	}
	refused(t, "a web", r)
}

// New in a tree that has no names takes no notice of what else is in it, and neither do the others.
func TestOtherKeys(t *testing.T) {
	_, _, r := grove(t, 60)
	others := []api.Pair{{Key: "\x00", Val: "0"}, {Key: "N", Val: ""}, {Key: "b", Val: "n"}, {Key: "m\xff\xff", Val: "1"}, {Key: "o", Val: "2"}, {Key: "o\x00", Val: ""}, {Key: "x", Val: "3"}, {Key: "\xff", Val: "4"}}
	for _, p := range others {
		told(t, "Put", r.Put(p.Key, p.Val), api.OK)
	}
	n := opened(t, r)
	lists(t, n, "/")
	made(t, n, "/a", directory, 2)
	made(t, n, "/a/b", file, 3)
	moved(t, n, "/a/b", "/c", 0)
	unlinked(t, n, "/c", 3)
	told(t, "Rmdir", n.Rmdir("/a"), api.OK)
	var rest []api.Pair
	for _, p := range pairs(t, r) {
		if p.Key[0] != 'n' {
			rest = append(rest, p)
		}
	}
	if !slices.Equal(rest, others) {
		t.Errorf("%q", rest)
	}
	opened(t, r)
}

// A tree that has no room for the root directory is left as it is.
func TestNewWithoutRoom(t *testing.T) {
	_, _, r := grove(t, 1)
	if n, e := names.New(r); n != nil || e != api.ErrSpace || r.Count() != 0 {
		t.Error(n, e)
	}
	refusedOnce := false
	for seed := range 20 {
		d := dice(seed)
		_, _, r := grove(t, 2+d.below(20))
		p := &play{t: t, r: r, dice: d}
		p.fill(d.below(3))
		before, room, depth := pairs(t, r), r.Room(), r.Depth()
		n, e := names.New(r)
		if e == api.ErrSpace {
			refusedOnce = true
			if n != nil || room >= 6*(depth+3) || !slices.Equal(pairs(t, r), before) {
				t.Error(n, room, depth)
			}
			continue
		}
		told(t, "New", e, api.OK)
	}
	if !refusedOnce {
		t.Error("there was room in all trees")
	}
}

// What a tree says that can't be read is told, and that it is none.
func TestNewWithoutPower(t *testing.T) {
	d, s, r := grove(t, 40)
	n := opened(t, r)
	made(t, n, "/a", directory, 2)
	told(t, "Commit", s.Commit(), api.OK)
	told(t, "Checkpoint", s.Checkpoint(), api.OK)
	d.Arm(0)
	told(t, "Flush", d.Flush(), api.ErrDown)
	if n, e := names.New(r); n != nil || e != api.ErrDown {
		t.Error(n, e)
	}
	for _, x := range []refusal{
		look1(n, "/a", api.ErrDown), list1(n, "/", api.ErrDown), make1(n, "/b", file, api.ErrDown), link1(n, "/b", "/c", api.ErrDown), unlink1(n, "/b", api.ErrDown),
		rmdir1(n, "/a", api.ErrDown), rename1(n, "/a", "/b", api.ErrDown), resize1(n, 2, 3, api.ErrDown), make1(n, "", file, api.ErrName),
	} {
		if got, e := x.call(); got != 0 || e != x.want {
			t.Errorf("%s: %d, %d", x.what, got, e)
		}
	}
	if i, e := n.Info(2); i != (names.Info{}) || e != api.ErrDown {
		t.Error(i, e)
	}
	d.Crash(nil)
	looks(t, n, "/a", 2, api.OK)
}

// What is answered is new memory: it may be changed.
func TestNewMemory(t *testing.T) {
	_, n := town(t)
	l, _ := n.List("/")
	m, _ := n.List("/")
	spare := append(l, "x")
	l[0], l[1] = "y", "z"
	if m[0] != "d" || m[1] != "g" || spare[len(spare)-1] != "x" {
		t.Error(m)
	}
	lists(t, n, "/", "d", "g", "h", "i")
	looks(t, n, "/d", 2, api.OK)
}
