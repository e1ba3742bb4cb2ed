package chunk_test

import (
	"math"
	"slices"
	"strings"
	"testing"

	"cistern/api"
	"cistern/chunk"
)

// num is how a number stands in so many bytes of a pair.
func num(n, width int) string {
	s := ""
	for ; width > 0; width-- {
		s = string([]byte{byte(n)}) + s
		n >>= 8
	}
	return s
}

// key is a chunk's key.
func key(ino, index int) string {
	return "x" + num(ino, 4) + num(index, 1)
}

// val is what is kept of a chunk.
func val(state, block, epoch, number, sum int) string {
	return num(state, 1) + num(block, 2) + num(epoch, 4) + num(number, 4) + num(sum, 4)
}

// settled has a dirty chunk in block 0, a clean one in block 1, an absent one; block 2 is free.
func settled(t *testing.T) *yard {
	t.Helper()
	y := ground(t, 50, 3)
	y.writes(2, 0, fill('a'))
	y.writes(2, 3, fill('b'))
	y.writes(7, 31, fill('c'))
	y.goes(2, 3, 4, 5)
	y.goes(7, 31, 6, mostBlob)
	y.evicts(7, 31)
	y.settles(1)
	return y
}

// kept are the pairs of settled.
func kept() []api.Pair {
	return []api.Pair{
		{Key: key(2, 0), Val: val(dirty, 0, 0, 0, crc(fill('a')))},
		{Key: key(2, 3), Val: val(clean, 1, 4, 5, crc(fill('b')))},
		{Key: key(7, 31), Val: val(absent, 0, 6, mostBlob, crc(fill('c')))},
	}
}

// What is kept is as the package says, so that the tests below alter what they mean to.
func TestKept(t *testing.T) {
	y := settled(t)
	if l := y.pairs(); !slices.Equal(l, kept()) {
		t.Errorf("%q", l)
	}
	y.open()
	y.is(2, 0, dirty, 0, 0, fill('a'))
	y.is(2, 3, clean, 4, 5, fill('b'))
	y.is(7, 31, absent, 6, mostBlob, fill('c'))
	y.frees(1)
	y.settles(0)
}

// refused asks New for chunks in a tree that has something else.
func (y *yard) refused(what string) {
	y.t.Helper()
	before := y.pairs()
	if c, e := chunk.New(y.r, y.d, y.first(), y.blocks); c != nil || e != api.ErrForm {
		y.t.Errorf("%s: %v, %d", what, c, e)
	}
	if !slices.Equal(y.pairs(), before) {
		y.t.Errorf("%s: New has changed the tree", what)
	}
}

// wrongPairs are pairs that are no chunks.
func wrongPairs() []api.Pair {
	good := kept()[1].Val
	l := []api.Pair{
		{Key: "x"}, {Key: "x" + num(9, 4)}, {Key: "x" + key(9, 0)}, {Key: "x" + num(9, 4) + num(0, 2)}, {Key: "x" + num(9, 31)},
		{Key: key(0, 0)}, {Key: key(9, 32)}, {Key: key(9, 255)}, {Key: key(mostIno, 32)},
	}
	for i := range l {
		l[i].Val = good
	}
	for _, v := range []string{
		"", good[1:], good + "\x00", good[:len(good)-1], strings.Repeat("\x00", len(good)), strings.Repeat("\xff", len(good)), strings.Repeat("\x00", api.MaxVal),
		val(0, 2, 1, 1, 1), val(4, 2, 1, 1, 1), val(255, 2, 1, 1, 1), val(0, 0, 0, 0, 0),
		val(dirty, 2, 1, 0, 1), val(dirty, 2, 0, 1, 1), val(dirty, 2, mostBlob, mostBlob, 1),
		val(clean, 2, 1<<31, 1, 1), val(clean, 2, 1, 1<<31, 1), val(clean, 2, 1<<32-1, 1, 1), val(absent, 0, 1<<31, 1, 1), val(absent, 0, 1, 1<<31, 1),
		val(absent, 2, 1, 1, 1), val(absent, 1, 1, 1, 1), val(absent, 256, 1, 1, 1),
		val(clean, api.MaxBlocks, 1, 1, 1), val(dirty, api.MaxBlocks, 0, 0, 1), val(clean, 1<<16-1, 1, 1, 1), val(dirty, 1<<16-1, 0, 0, 1),
	} {
		l = append(l, api.Pair{Key: key(9, 1), Val: v})
	}
	return l
}

func TestForm(t *testing.T) {
	for _, p := range wrongPairs() {
		y := settled(t)
		told(t, "Put", y.r.Put(p.Key, p.Val), api.OK)
		y.refused(p.Key + " " + p.Val)
	}
	for what, p := range map[string]api.Pair{
		"a block that another one has":              {Key: key(9, 1), Val: val(dirty, 0, 0, 0, 1)},
		"a clean one in a block that a clean has":   {Key: key(9, 1), Val: val(clean, 1, 0, 0, 1)},
		"a block that isn't one of so few":          {Key: key(9, 1), Val: val(dirty, 3, 0, 0, 1)},
		"a clean one in a block that isn't one":     {Key: key(9, 1), Val: val(clean, 3, 0, 0, 1)},
		"the last block of all, where there are 3":  {Key: key(9, 1), Val: val(clean, api.MaxBlocks-1, 0, 0, 1)},
		"one that is ahead of all in another block": {Key: key(1, 0), Val: val(dirty, 1, 0, 0, 1)},
	} {
		y := settled(t)
		told(t, "Put", y.r.Put(p.Key, p.Val), api.OK)
		y.refused(what)
	}
	for what, p := range map[string]api.Pair{
		"a dirty one":                  {Key: key(9, 1), Val: val(dirty, 2, 0, 0, 1<<32-1)},
		"a clean one":                  {Key: key(mostIno, 0), Val: val(clean, 2, mostBlob, mostBlob, 0)},
		"an absent one":                {Key: key(1, 31), Val: val(absent, 0, 0, 0, 9)},
		"another key":                  {Key: "y", Val: ""},
		"another key that is a prefix": {Key: "w" + key(0, 99), Val: "x"},
		"a key that begins otherwise":  {Key: "X" + num(9, 4), Val: "x"},
	} {
		y := settled(t)
		told(t, "Put", y.r.Put(p.Key, p.Val), api.OK)
		before := y.pairs()
		y.open()
		if !slices.Equal(y.pairs(), before) {
			t.Errorf("%s: New has changed the tree", what)
		}
	}
}

// away is what Away is to say of a chunk that isn't dirty.
func away(t *testing.T, p api.Pair, ino, index, epoch, number int, b string) {
	t.Helper()
	want := api.Pair{Key: key(ino, index), Val: val(absent, 0, epoch, number, crc(b))}
	if q, x, n, e := chunk.Away(p); q != want || x != epoch || n != number || e != api.OK {
		t.Errorf("Away(%q): %q, %d, %d, %d", p, q, x, n, e)
	}
}

func TestAway(t *testing.T) {
	l := settled(t).pairs()
	if q, x, n, e := chunk.Away(l[0]); q != (api.Pair{}) || x != 0 || n != 0 || e != api.ErrStale {
		t.Error(q, x, n, e)
	}
	away(t, l[1], 2, 3, 4, 5, fill('b'))
	away(t, l[2], 7, 31, 6, mostBlob, fill('c'))
	wrong := wrongPairs()
	for _, p := range l {
		wrong = append(wrong, api.Pair{Key: "n" + p.Key[1:], Val: p.Val}, api.Pair{Key: p.Key[1:], Val: p.Val}, api.Pair{Key: "X" + p.Key[1:], Val: p.Val}, api.Pair{Key: "", Val: p.Val}, api.Pair{Key: p.Val, Val: p.Key}, api.Pair{Key: "y" + p.Key, Val: p.Val})
	}
	for _, p := range append(wrong, api.Pair{}, api.Pair{Key: strings.Repeat("x", 1<<16), Val: strings.Repeat("x", 1<<16)}) {
		if q, x, n, e := chunk.Away(p); q != (api.Pair{}) || x != 0 || n != 0 || e != api.ErrForm {
			t.Errorf("Away(%q): %q, %d, %d, %d", p, q, x, n, e)
		}
	}
	// The block says nothing of how many there are.
	away(t, api.Pair{Key: key(9, 1), Val: val(clean, api.MaxBlocks-1, 1, 2, crc(""))}, 9, 1, 1, 2, "")
}

// The pairs that Away tells are those that the tree has when all is away, and make the chunks anew in an empty tree.
func TestAwayElsewhere(t *testing.T) {
	y := ground(t, 100, 40)
	for i := range 30 {
		y.writes(1+i/7, i%7*5, fill(byte(i)))
		y.goes(1+i/7, i%7*5, i, mostBlob-i)
		if i%3 == 0 {
			y.evicts(1+i/7, i%7*5)
		}
	}
	other := ground(t, 100, 1)
	var l []api.Pair
	for i, p := range y.pairs() {
		q, epoch, number, e := chunk.Away(p)
		if e != api.OK || epoch != i || number != mostBlob-i {
			t.Error(epoch, number, e)
		}
		told(t, "Put", other.r.Put(q.Key, q.Val), api.OK)
		l = append(l, q)
	}
	other.open()
	other.frees(1)
	for i := range 30 {
		other.is(1+i/7, i%7*5, absent, i, mostBlob-i, fill(byte(i)))
		if i%3 != 0 {
			y.evicts(1+i/7, i%7*5)
		}
	}
	if !slices.Equal(y.pairs(), l) {
		t.Error("the pairs are others when all is away")
	}
	told(t, "Fill", other.c.Fill(2, 0, fill(7)), api.OK)
	other.is(2, 0, clean, 7, mostBlob-7, fill(7))
}

// Whatever texts a pair has, Away ends; what it takes is a pair of its own making.
func TestAwayOfMany(t *testing.T) {
	d, taken := dice(1), 0
	for range 20000 {
		p := kept()[1+d.below(2)]
		key, val := []byte(p.Key), []byte(p.Val)
		for range d.below(3) {
			key[d.below(len(key))] = byte(d.below(256) & d.below(256))
			val[d.below(len(val))] = byte(d.below(256) & d.below(256))
		}
		q, epoch, number, e := chunk.Away(api.Pair{Key: string(key), Val: string(val)})
		if e != api.OK {
			continue
		}
		taken++
		again, x, n, e := chunk.Away(q)
		if again != q || x != epoch || n != number || e != api.OK || q.Key != string(key) || epoch > mostBlob || number > mostBlob || min(epoch, number) < 0 {
			t.Fatalf("Away(%q, %q): %q, %d, %d", key, val, q, epoch, number)
		}
	}
	if taken < 1000 || taken > 19000 {
		t.Error(taken)
	}
}

// New asks for all chunks, however many others there are.
func TestFormLast(t *testing.T) {
	y := ground(t, 300, 200)
	for i := range 199 {
		y.writes(1+i, i%32, fill(byte(i)))
		told(t, "Put", y.r.Put("n"+num(i, 4), ""), api.OK)
	}
	y.open()
	y.frees(1)
	told(t, "Put", y.r.Put(key(math.MaxInt32, 5), val(dirty, 198, 0, 0, 0)), api.OK)
	y.refused("two in one block")
	told(t, "Put", y.r.Put(key(math.MaxInt32, 5), val(dirty, 199, 0, 0, 0)), api.OK)
	y.open()
	y.frees(0)
}
