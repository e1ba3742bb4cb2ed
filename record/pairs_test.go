package record_test

import (
	"bytes"
	"math"
	"slices"
	"strconv"
	"strings"
	"testing"

	"cistern/api"
	"cistern/pack"
	"cistern/record"
)

// pairItems are the items of a blob of pairs, in form or not.
func pairItems(n int, l []api.Pair) []api.Item {
	items := []api.Item{num(4), num(n)}
	for _, p := range l {
		items = append(items, txt(p.Key), txt(p.Val))
	}
	return items
}

// paired asks that pairs have the blob of their items, and that the blob holds them.
func paired(t *testing.T, n int, l ...api.Pair) {
	t.Helper()
	want := sealed(t, pairItems(n, l)...)
	b, e := record.EncodePairs(n, l)
	if e != api.OK || !bytes.Equal(b, want) {
		t.Errorf("EncodePairs of %d: %d bytes and error %d, not %d", n, len(b), e, len(want))
	}
	got, back, e := record.DecodePairs(want)
	if got != n || !slices.Equal(back, l) || e != api.OK {
		t.Errorf("DecodePairs: %d, %d pairs and error %d, not %d, %d pairs", got, len(back), e, n, len(l))
	}
}

// unpaired asks that bytes are the blob of no pairs.
func unpaired(t *testing.T, what string, b []byte, want api.Errno) {
	t.Helper()
	if n, l, e := record.DecodePairs(b); n != 0 || len(l) != 0 || e != want {
		t.Errorf("%s: %d, %d pairs and error %d, not %d", what, n, len(l), e, want)
	}
}

// shapeless asks that pairs are refused, and their blob too.
func shapeless(t *testing.T, n int, l ...api.Pair) {
	t.Helper()
	b, e := record.EncodePairs(n, l)
	none(t, "EncodePairs", b, e, api.ErrForm)
	unpaired(t, "pairs not in form", sealed(t, pairItems(n, l)...), api.ErrForm)
}

// key is the i-th key of n bytes.
func key(i, n int) string {
	s := strconv.Itoa(i)
	return strings.Repeat("0", n-len(s)) + s
}

// many are so many pairs, each of so many bytes.
func many(count, keys, vals int) []api.Pair {
	var l []api.Pair
	for i := range count {
		l = append(l, api.Pair{Key: key(i, keys), Val: strings.Repeat("v", vals)})
	}
	return l
}

func TestPairs(t *testing.T) {
	paired(t, 1, api.Pair{Key: "a", Val: "1"}, api.Pair{Key: "b", Val: "2"})
	paired(t, 0)
	paired(t, 7)
	paired(t, math.MaxInt)
	paired(t, 0, api.Pair{Key: "a"})
	paired(t, 0, api.Pair{Key: "\x00"}, api.Pair{Key: "\x00\x00"}, api.Pair{Key: "\x01"}, api.Pair{Key: "a"}, api.Pair{Key: "a\x00"}, api.Pair{Key: "\xff"}, api.Pair{Key: "\xff\xfe"})
	paired(t, 0, api.Pair{Key: strings.Repeat("k", 32), Val: strings.Repeat("\xff", 48)}, api.Pair{Key: "l", Val: "\x00"})
	b, e := record.EncodePairs(258, []api.Pair{{Key: "ab", Val: "c"}})
	want := string(pack.Seal([]byte("\x01\x04\x00\x00\x00\x00\x00\x00\x00\x01\x02\x01\x00\x00\x00\x00\x00\x00\x02\x02\x00ab\x02\x01\x00c")))
	if string(b) != want || e != api.OK {
		t.Errorf("%x and error %d, not %x", b, e, want)
	}
}

func TestPairsForm(t *testing.T) {
	shapeless(t, 1, api.Pair{Key: "b", Val: "1"}, api.Pair{Key: "a", Val: "2"})
	shapeless(t, -1)
	shapeless(t, math.MinInt)
	shapeless(t, -1, api.Pair{Key: "a", Val: "1"})
	shapeless(t, 1, api.Pair{Val: "1"})
	shapeless(t, 1, api.Pair{}, api.Pair{Key: "a"})
	shapeless(t, 1, api.Pair{Key: "a"}, api.Pair{})
	shapeless(t, 1, api.Pair{Key: "a"}, api.Pair{Key: "a"})
	shapeless(t, 1, api.Pair{Key: "a", Val: "1"}, api.Pair{Key: "a", Val: "2"})
	shapeless(t, 1, api.Pair{Key: "ab"}, api.Pair{Key: "a"})
	shapeless(t, 1, api.Pair{Key: "\xff"}, api.Pair{Key: "a"})
	shapeless(t, 1, api.Pair{Key: "é"}, api.Pair{Key: "z"})
	shapeless(t, 1, api.Pair{Key: "a"}, api.Pair{Key: "c"}, api.Pair{Key: "b"})
	shapeless(t, 1, api.Pair{Key: strings.Repeat("k", 33)})
	shapeless(t, 1, api.Pair{Key: "a"}, api.Pair{Key: strings.Repeat("k", 33)})
	shapeless(t, 1, api.Pair{Key: "a", Val: strings.Repeat("v", 49)})
	shapeless(t, 1, api.Pair{Key: "a"}, api.Pair{Key: "b", Val: strings.Repeat("v", 49)}, api.Pair{Key: "c"})
	shapeless(t, 1, api.Pair{Key: strings.Repeat("k", 50000)})
}

// size is how many bytes the blob of pairs has.
func size(l []api.Pair) int {
	n := 2*9 + 4
	for _, p := range l {
		n += 3 + len(p.Key) + 3 + len(p.Val)
	}
	return n
}

func TestPairsBig(t *testing.T) {
	big := func(n int, l []api.Pair) {
		t.Helper()
		b, e := record.EncodePairs(n, l)
		none(t, "EncodePairs", b, e, api.ErrBig)
	}
	paired(t, 1, many(1899, 4, 0)...)
	paired(t, 1, many(1900, 4, 0)...)
	big(1, many(1901, 4, 0))
	big(-1, many(1901, 4, 0))
	big(1, make([]api.Pair, 1901))
	big(1, make([]api.Pair, 5000))
	unpaired(t, "1901 pairs", sealed(t, pairItems(1, many(1901, 4, 0))...), api.ErrForm)
	unpaired(t, "1999 pairs", sealed(t, pairItems(1, many(1999, 4, 0))...), api.ErrForm)

	// 697 pairs of 86 bytes, and one of what is left.
	full := append(many(697, 32, 48), api.Pair{Key: "1", Val: strings.Repeat("v", 29)})
	if size(full) != 60000 {
		t.Fatal(size(full))
	}
	paired(t, 1, full...)
	full[697].Val += "v"
	big(1, full)
	big(-1, full)
	unpaired(t, "60001 bytes", sealed(t, pairItems(1, full)...), api.ErrForm)
	unpaired(t, "60001 bytes in a bad seal", append(sealed(t, pairItems(1, full)...), 0), api.ErrSum)
	big(1, many(1900, 32, 48))
	unpaired(t, "1900 pairs of many bytes", sealed(t, pairItems(1, many(1900, 32, 48))...), api.ErrForm)

	// The bytes are counted even if nothing is in form.
	full[0].Key, full[1].Key = full[1].Key, full[0].Key
	big(1, full)
	long := strings.Repeat("k", 30000)
	big(1, []api.Pair{{Key: long, Val: long}})
	big(1, []api.Pair{{Key: strings.Repeat("k", 60000-28+1)}})
	big(1, []api.Pair{{Key: "a", Val: strings.Repeat("v", 70000)}})
	for _, n := range []int{49999, 50001, 60000 - 28} {
		b, e := record.EncodePairs(1, []api.Pair{{Key: strings.Repeat("k", n)}})
		none(t, "EncodePairs", b, e, api.ErrForm)
		b, e = record.EncodePairs(1, []api.Pair{{Val: strings.Repeat("v", n)}})
		none(t, "EncodePairs", b, e, api.ErrForm)
	}
}

func TestPairsShapes(t *testing.T) {
	for _, l := range [][]api.Item{
		nil,
		{num(4)},
		{txt("")},
		{num(4), txt("")},
		{txt("4"), num(1)},
		{txt(""), txt(""), txt("a"), txt("1")},
		{num(4), txt(""), txt("a"), txt("1")},
		{num(4), num(1), txt("a")},
		{num(4), num(1), txt("a"), txt("1"), txt("b")},
		{num(4), num(1), num(2)},
		{num(4), num(1), num(2), num(3)},
		{num(4), num(1), txt("a"), num(3)},
		{num(4), num(1), num(3), txt("a")},
		{num(4), num(1), txt("a"), txt("1"), txt("b"), num(0)},
		{num(4), txt("a"), txt("1")},
		{num(3), num(1), txt("a"), txt("1")},
		{num(5), num(1), txt("a"), txt("1")},
		{num(260), num(1), txt("a"), txt("1")},
		{num(0), num(1), txt("a"), txt("1")},
		{num(4), num(-1), txt("a"), txt("1")},
	} {
		unpaired(t, "items of no pairs", sealed(t, l...), api.ErrForm)
	}
	unpaired(t, "nothing", nil, api.ErrForm)
	unpaired(t, "three bytes", []byte{0, 0, 0}, api.ErrForm)
	unpaired(t, "no items", pack.Seal([]byte{1, 5}), api.ErrForm)
	unpaired(t, "no items in a bad seal", []byte{1, 5, 9, 9, 9, 9}, api.ErrSum)
	in := sealed(t, pairItems(1, []api.Pair{{Key: "a", Val: "1"}})...)
	unpaired(t, "framed", framed(t, in), api.ErrSum)
	unpaired(t, "cut", in[:len(in)-1], api.ErrSum)
	for i := range 8 * len(in) {
		in[i/8] ^= 1 << (i % 8)
		unpaired(t, "a bit turned", in, api.ErrSum)
		in[i/8] ^= 1 << (i % 8)
	}
}

func TestPairsMemory(t *testing.T) {
	all := []api.Pair{{Key: "a", Val: "1"}, {Key: "b", Val: "2"}, {Key: "spare", Val: "room"}}
	for _, n := range []int{1, -1} {
		record.EncodePairs(n, all[:2])
		if !slices.Equal(all, []api.Pair{{Key: "a", Val: "1"}, {Key: "b", Val: "2"}, {Key: "spare", Val: "room"}}) {
			t.Error("what is handed in is changed")
		}
	}
	b, _ := record.EncodePairs(1, all[:2])
	_, one, _ := record.DecodePairs(b)
	_, two, _ := record.DecodePairs(b)
	one[0] = api.Pair{}
	if two[0] != all[0] {
		t.Error("two answers share memory")
	}
	c, _ := record.EncodePairs(1, all[:2])
	clear(c)
	if n, l, e := record.DecodePairs(b); n != 1 || len(l) != 2 || e != api.OK {
		t.Error("two answers share memory")
	}
}
