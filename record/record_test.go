package record_test

import (
	"bytes"
	"hash/crc32"
	"math"
	"slices"
	"strings"
	"testing"

	"cistern/api"
	"cistern/pack"
	"cistern/record"
)

// num and txt are items in form.
func num(n int) api.Item    { return api.Item{Kind: 1, N: n} }
func txt(s string) api.Item { return api.Item{Kind: 2, S: s} }

// sealed is what seals items.
func sealed(t *testing.T, l ...api.Item) []byte {
	t.Helper()
	b, e := pack.Encode(l)
	told(t, "Encode", e, api.OK)
	return pack.Seal(b)
}

// framed is the sector of bytes.
func framed(t *testing.T, b []byte) []byte {
	t.Helper()
	f, e := pack.Frame(b, 256)
	told(t, "Frame", e, api.OK)
	return f
}

// told asks for an error's number.
func told(t *testing.T, what string, got, want api.Errno) {
	t.Helper()
	if got != want {
		t.Errorf("%s: error %d, not %d", what, got, want)
	}
}

// none asks that there are no bytes beside this error.
func none(t *testing.T, what string, b []byte, got, want api.Errno) {
	t.Helper()
	told(t, what, got, want)
	if len(b) != 0 {
		t.Errorf("%s: %d bytes beside an error", what, len(b))
	}
}

// super asks that a record has the sector of these items, and that the sector holds it.
func super(t *testing.T, s record.Super, items ...api.Item) {
	t.Helper()
	want := framed(t, sealed(t, items...))
	b, e := record.EncodeSuper(s)
	if e != api.OK || !bytes.Equal(b, want) {
		t.Errorf("EncodeSuper(%v): %x and error %d, not %x", s, b, e, want)
	}
	if got, e := record.DecodeSuper(want); got != s || e != api.OK {
		t.Errorf("DecodeSuper: %v and error %d, not %v", got, e, s)
	}
}

// logged asks that a record has the sector of these items, and that the sector holds it.
func logged(t *testing.T, l record.Log, items ...api.Item) {
	t.Helper()
	want := framed(t, sealed(t, items...))
	b, e := record.EncodeLog(l)
	if e != api.OK || !bytes.Equal(b, want) {
		t.Errorf("EncodeLog(%v): %x and error %d, not %x", l, b, e, want)
	}
	if got, e := record.DecodeLog(want); got != l || e != api.OK {
		t.Errorf("DecodeLog: %v and error %d, not %v", got, e, l)
	}
}

// home asks that a record has the sector of these items, and that the sector holds it.
func home(t *testing.T, h record.Home, items ...api.Item) {
	t.Helper()
	want := framed(t, sealed(t, items...))
	b, e := record.EncodeHome(h)
	if e != api.OK || !bytes.Equal(b, want) {
		t.Errorf("EncodeHome(%v): %x and error %d, not %x", h, b, e, want)
	}
	if got, e := record.DecodeHome(want); got != h || e != api.OK {
		t.Errorf("DecodeHome: %v and error %d, not %v", got, e, h)
	}
}

// refused asks that bytes are the sector of no record at all.
func refused(t *testing.T, what string, b []byte, want api.Errno) {
	t.Helper()
	if s, e := record.DecodeSuper(b); s != (record.Super{}) || e != want {
		t.Errorf("%s: DecodeSuper: %v and error %d, not %d", what, s, e, want)
	}
	if l, e := record.DecodeLog(b); l != (record.Log{}) || e != want {
		t.Errorf("%s: DecodeLog: %v and error %d, not %d", what, l, e, want)
	}
	if h, e := record.DecodeHome(b); h != (record.Home{}) || e != want {
		t.Errorf("%s: DecodeHome: %v and error %d, not %d", what, h, e, want)
	}
}

func TestExamples(t *testing.T) {
	b, e := record.EncodeSuper(record.Super{Gen: 3, Epoch: 2, Tail: 7})
	told(t, "EncodeSuper", e, api.OK)
	if s, e := record.DecodeSuper(b); s != (record.Super{Gen: 3, Epoch: 2, Tail: 7}) || e != api.OK {
		t.Errorf("%v and error %d", s, e)
	}
	refused(t, "noughts", make([]byte, 256), api.ErrForm)
	h, e := record.EncodeHome(record.Home{Page: 1, Data: "x"})
	told(t, "EncodeHome", e, api.OK)
	if s, e := record.DecodeSuper(h); s != (record.Super{}) || e != api.ErrForm {
		t.Errorf("%v and error %d", s, e)
	}
	b[20] ^= 4
	refused(t, "a bit turned", b, api.ErrSum)
	b, e = record.EncodeSuper(record.Super{Gen: -1})
	none(t, "EncodeSuper", b, e, api.ErrForm)
	b, e = record.EncodeLog(record.Log{Kind: 2, Epoch: 1, Seq: 5, Tx: 1, Index: 3, Count: 3, Page: 0, Data: "x"})
	none(t, "EncodeLog", b, e, api.ErrForm)
	b, e = record.EncodeHome(record.Home{Page: 0, Data: strings.Repeat("a", 161)})
	none(t, "EncodeHome", b, e, api.ErrForm)
}

// The bytes of one record of each kind, written out.
func TestBytes(t *testing.T) {
	body := "\x01\x01\x00\x00\x00\x00\x00\x00\x00" +
		"\x01\x03\x00\x00\x00\x00\x00\x00\x00" +
		"\x01\x02\x00\x00\x00\x00\x00\x00\x00" +
		"\x01\x07\x00\x00\x00\x00\x00\x00\x00"
	same(t, body, func() ([]byte, api.Errno) { return record.EncodeSuper(record.Super{Gen: 3, Epoch: 2, Tail: 7}) })
	body = "\x01\x02\x00\x00\x00\x00\x00\x00\x00" +
		"\x01\x01\x00\x00\x00\x00\x00\x00\x00" +
		"\x01\x05\x00\x00\x00\x00\x00\x00\x00" +
		"\x01\x09\x00\x00\x00\x00\x00\x00\x00" +
		"\x01\x08\x00\x00\x00\x00\x00\x00\x00" +
		"\x01\x01\x00\x00\x00\x00\x00\x00\x00" +
		"\x01\x02\x00\x00\x00\x00\x00\x00\x00" +
		"\x01\x00\x01\x00\x00\x00\x00\x00\x00" +
		"\x02\x02\x00ab"
	same(t, body, func() ([]byte, api.Errno) {
		return record.EncodeLog(record.Log{Kind: 1, Epoch: 5, Seq: 9, Tx: 8, Index: 1, Count: 2, Page: 256, Data: "ab"})
	})
	body = "\x01\x03\x00\x00\x00\x00\x00\x00\x00" +
		"\x01\x07\x00\x00\x00\x00\x00\x00\x00" +
		"\x02\x00\x00"
	same(t, body, func() ([]byte, api.Errno) { return record.EncodeHome(record.Home{Page: 7}) })
}

// same asks for the sector in which these bytes stand, by the library's own checksum.
func same(t *testing.T, body string, encode func() ([]byte, api.Errno)) {
	t.Helper()
	want := make([]byte, 256)
	want[0] = byte(len(body) + 4)
	copy(want[2:], body)
	sum := crc32.ChecksumIEEE([]byte(body))
	for i := range 4 {
		want[2+len(body)+i] = byte(sum >> (8 * i))
	}
	b, e := encode()
	if e != api.OK || !bytes.Equal(b, want) {
		t.Errorf("%x and error %d, not %x", b, e, want)
	}
}

func TestSuper(t *testing.T) {
	for _, s := range []record.Super{
		{},
		{Gen: 1},
		{Epoch: 1},
		{Tail: 1},
		{Gen: 1, Epoch: 2, Tail: 3},
		{Gen: math.MaxInt, Epoch: math.MaxInt, Tail: math.MaxInt},
	} {
		super(t, s, num(1), num(s.Gen), num(s.Epoch), num(s.Tail))
	}
	for _, s := range []record.Super{
		{Gen: -1, Epoch: 1, Tail: 1},
		{Gen: 1, Epoch: -1, Tail: 1},
		{Gen: 1, Epoch: 1, Tail: -1},
		{Gen: math.MinInt},
		{Epoch: math.MinInt},
		{Tail: math.MinInt},
	} {
		b, e := record.EncodeSuper(s)
		none(t, "EncodeSuper", b, e, api.ErrForm)
		refused(t, "Super below 0", framed(t, sealed(t, num(1), num(s.Gen), num(s.Epoch), num(s.Tail))), api.ErrForm)
	}
}

// logItems are the items of a record of the log, in form or not.
func logItems(l record.Log) []api.Item {
	return []api.Item{num(2), num(l.Kind), num(l.Epoch), num(l.Seq), num(l.Tx), num(l.Index), num(l.Count), num(l.Page), txt(l.Data)}
}

func TestLog(t *testing.T) {
	long := strings.Repeat("\xff", 160)
	most := math.MaxInt
	for _, l := range []record.Log{
		{Kind: 1},
		{Kind: 2},
		{Kind: 1, Epoch: 1, Seq: 2, Tx: 3, Index: 4, Count: 5, Page: 6, Data: "x"},
		{Kind: 2, Epoch: 1, Seq: 2, Tx: 3, Index: 4, Count: 5},
		{Kind: 1, Data: long},
		{Kind: 1, Data: "\x00"},
		{Kind: 1, Epoch: most, Seq: most, Tx: most, Index: most, Count: most, Page: most, Data: long},
		{Kind: 2, Epoch: most, Seq: most, Tx: most, Index: most, Count: most},
	} {
		logged(t, l, logItems(l)...)
	}
	for _, l := range []record.Log{
		{},
		{Kind: -1},
		{Kind: 3},
		{Kind: 257},
		{Kind: math.MinInt},
		{Kind: math.MaxInt},
		{Kind: 1, Epoch: -1},
		{Kind: 1, Seq: -1},
		{Kind: 1, Tx: -1},
		{Kind: 1, Index: -1},
		{Kind: 1, Count: -1},
		{Kind: 1, Page: -1},
		{Kind: 2, Epoch: -1},
		{Kind: 2, Seq: math.MinInt},
		{Kind: 2, Tx: -1},
		{Kind: 2, Index: -1},
		{Kind: 2, Count: -1},
		{Kind: 2, Page: -1},
		{Kind: 2, Page: 1},
		{Kind: 2, Data: "x"},
		{Kind: 2, Data: "\x00"},
		{Kind: 1, Data: strings.Repeat("a", 161)},
		{Kind: 1, Data: strings.Repeat("a", 170)},
	} {
		b, e := record.EncodeLog(l)
		none(t, "EncodeLog", b, e, api.ErrForm)
		refused(t, "Log not in form", framed(t, sealed(t, logItems(l)...)), api.ErrForm)
	}
	for _, n := range []int{300, 50000, 50001, 70000} {
		b, e := record.EncodeLog(record.Log{Kind: 1, Data: strings.Repeat("a", n)})
		none(t, "EncodeLog", b, e, api.ErrForm)
	}
}

func TestHome(t *testing.T) {
	for _, h := range []record.Home{
		{},
		{Page: 1, Data: "x"},
		{Page: math.MaxInt, Data: strings.Repeat("\x00", 160)},
		{Data: strings.Repeat("a", 159)},
	} {
		home(t, h, num(3), num(h.Page), txt(h.Data))
	}
	for _, h := range []record.Home{
		{Page: -1},
		{Page: math.MinInt, Data: "x"},
		{Data: strings.Repeat("a", 161)},
		{Data: strings.Repeat("a", 200)},
	} {
		b, e := record.EncodeHome(h)
		none(t, "EncodeHome", b, e, api.ErrForm)
		refused(t, "Home not in form", framed(t, sealed(t, num(3), num(h.Page), txt(h.Data))), api.ErrForm)
	}
	for _, n := range []int{300, 50000, 50001, 70000} {
		b, e := record.EncodeHome(record.Home{Data: strings.Repeat("a", n)})
		none(t, "EncodeHome", b, e, api.ErrForm)
	}
}

// shapes are lists of items that no record has.
func shapes() [][]api.Item {
	l := [][]api.Item{
		nil,
		{num(1)},
		{txt("")},
		{num(1), num(3), num(2)},
		{num(1), num(3), num(2), num(7), num(0)},
		{num(1), num(3), num(2), num(7), txt("")},
		{num(1), num(3), num(2), txt("")},
		{num(1), txt(""), num(2), num(7)},
		{txt("\x01"), num(3), num(2), num(7)},
		{num(0), num(3), num(2), num(7)},
		{num(257), num(3), num(2), num(7)},
		{num(2), num(3), num(2), num(7)},
		{num(3), num(3), num(2), num(7)},
		{num(3)},
		{num(3), num(1)},
		{num(3), txt("x")},
		{num(3), num(1), num(0)},
		{num(3), txt(""), txt("x")},
		{txt(""), num(1), txt("x")},
		{num(3), txt("x"), num(1)},
		{num(3), num(1), txt("x"), txt("")},
		{num(3), num(1), txt("x"), num(0)},
		{num(1), num(1), txt("x")},
		{num(2), num(1), txt("x")},
		{num(4), num(1), txt("x"), txt("y")},
		{num(4), num(1)},
	}
	in := logItems(record.Log{Kind: 1, Epoch: 1, Seq: 1, Tx: 1, Index: 1, Count: 1, Page: 1, Data: "x"})
	for i := range in {
		turned := slices.Clone(in)
		if i < 8 {
			turned[i] = txt("x")
		} else {
			turned[i] = num(1)
		}
		l = append(l, turned, slices.Delete(slices.Clone(in), i, i+1))
	}
	for mark := range 5 {
		if mark != 2 {
			l = append(l, append([]api.Item{num(mark)}, in[1:]...))
		}
	}
	return append(l, append(slices.Clone(in), txt("")), append(slices.Clone(in), num(0)))
}

func TestShapes(t *testing.T) {
	for _, l := range shapes() {
		refused(t, "items of no record", framed(t, sealed(t, l...)), api.ErrForm)
	}
}

// Each record's sector is refused by the calls of the others.
func TestKinds(t *testing.T) {
	s, _ := record.EncodeSuper(record.Super{Gen: 1, Epoch: 1, Tail: 1})
	l, _ := record.EncodeLog(record.Log{Kind: 1, Data: "x"})
	h, _ := record.EncodeHome(record.Home{Page: 1, Data: "x"})
	for _, b := range [][]byte{l, h} {
		if got, e := record.DecodeSuper(b); got != (record.Super{}) || e != api.ErrForm {
			t.Errorf("DecodeSuper: %v and error %d", got, e)
		}
	}
	for _, b := range [][]byte{s, h} {
		if got, e := record.DecodeLog(b); got != (record.Log{}) || e != api.ErrForm {
			t.Errorf("DecodeLog: %v and error %d", got, e)
		}
	}
	for _, b := range [][]byte{s, l} {
		if got, e := record.DecodeHome(b); got != (record.Home{}) || e != api.ErrForm {
			t.Errorf("DecodeHome: %v and error %d", got, e)
		}
	}
}

func TestFrames(t *testing.T) {
	for _, items := range [][]api.Item{
		{num(1), num(3), num(2), num(7)},
		logItems(record.Log{Kind: 1, Seq: 4, Data: "x"}),
		{num(3), num(1), txt("x")},
	} {
		in := sealed(t, items...)
		size := len(in) + 2

		// A frame of another length is no sector, whatever stands in it.
		for _, n := range []int{size, 255, 257, 512, 60000} {
			b, e := pack.Frame(in, n)
			told(t, "Frame", e, api.OK)
			refused(t, "another length", b, api.ErrForm)
		}
		refused(t, "too long for a frame", append(framed(t, in), make([]byte, 60000)...), api.ErrForm)
		b := framed(t, in)
		refused(t, "cut", b[:size-1], api.ErrForm)
		refused(t, "no length", b[:1], api.ErrForm)
		refused(t, "sealed alone", in, api.ErrForm)
		refused(t, "not sealed", framed(t, in[:len(in)-4]), api.ErrSum)
		refused(t, "no seal", framed(t, in[:3]), api.ErrForm)

		// The frame is looked at ahead of the seal.
		b = framed(t, in)
		b[255] = 1
		refused(t, "behind the frame", b, api.ErrForm)
		b[5] ^= 1
		refused(t, "behind the frame and within", b, api.ErrForm)
		b = framed(t, in)
		b[1] = 1
		refused(t, "longer than there are", b, api.ErrForm)

		// The seal is looked at ahead of the items.
		b = framed(t, append(in[:len(in)-4:len(in)-4], 9, 9, 9, 9))
		refused(t, "another seal", b, api.ErrSum)
	}
	refused(t, "nothing", nil, api.ErrForm)
	refused(t, "an empty seal", framed(t, sealed(t)), api.ErrForm)
	refused(t, "no items", framed(t, pack.Seal([]byte{1, 5})), api.ErrForm)
	refused(t, "no items in a bad seal", framed(t, []byte{1, 5, 9, 9, 9, 9}), api.ErrSum)
	refused(t, "all bits", bytes.Repeat([]byte{0xff}, 256), api.ErrForm)
}

// Where the seal doesn't fit, that is told, whatever the length of the frame.
func TestSumOfOtherLengths(t *testing.T) {
	in := sealed(t, num(3), num(1), txt("x"))
	in[4] ^= 1
	for _, n := range []int{len(in) + 2, 255, 257, 60000} {
		b, e := pack.Frame(in, n)
		told(t, "Frame", e, api.OK)
		refused(t, "a bad seal", b, api.ErrSum)
	}
}

// Each bit of a sector that is turned is found.
func TestBits(t *testing.T) {
	s, _ := record.EncodeSuper(record.Super{Gen: 3, Epoch: 2, Tail: 7})
	l, _ := record.EncodeLog(record.Log{Kind: 1, Epoch: 1, Seq: 7, Tx: 7, Count: 1, Page: 3, Data: strings.Repeat("ab", 80)})
	h, _ := record.EncodeHome(record.Home{Page: 3, Data: "abc"})
	for _, b := range [][]byte{s, l, h} {
		for i := range 8 * len(b) {
			b[i/8] ^= 1 << (i % 8)
			want := api.ErrForm
			if in, e := pack.Unframe(b); e == api.OK {
				_, want = pack.Open(in)
			}
			if want == api.OK {
				t.Fatal("a seal that fits", i)
			}
			refused(t, "a bit turned", b, want)
			b[i/8] ^= 1 << (i % 8)
		}
	}
}

// room hands out bytes with room behind them that isn't theirs.
func room(b []byte) []byte {
	all := append(bytes.Clone(b), "spare room"...)
	return all[:len(b)]
}

func TestMemory(t *testing.T) {
	s, _ := record.EncodeSuper(record.Super{Gen: 3, Epoch: 2, Tail: 7})
	l, _ := record.EncodeLog(record.Log{Kind: 1, Data: "abc"})
	h, _ := record.EncodeHome(record.Home{Page: 3, Data: "abc"})
	p, _ := record.EncodePairs(1, []api.Pair{{Key: "abc", Val: "def"}})
	for _, in := range [][]byte{s, l, h, p, nil, make([]byte, 256)} {
		b := room(in)
		record.DecodeSuper(b)
		lg, _ := record.DecodeLog(b)
		hm, _ := record.DecodeHome(b)
		_, ps, _ := record.DecodePairs(b)
		if string(b[:len(b)+10]) != string(in)+"spare room" {
			t.Error("what is handed in is changed")
		}
		clear(b)
		if !bytes.Equal(in, l) != (lg.Data == "") || !bytes.Equal(in, h) != (hm.Data == "") || bytes.Equal(in, p) != (len(ps) == 1) {
			t.Error("what is decoded is gone")
		}
		if len(ps) == 1 && ps[0] != (api.Pair{Key: "abc", Val: "def"}) || lg.Data != "" && lg.Data != "abc" || hm.Data != "" && hm.Data != "abc" {
			t.Error("what is decoded shares memory")
		}
	}

	// An answer is changed by nobody's next call.
	again, _ := record.EncodeSuper(record.Super{Gen: 3, Epoch: 2, Tail: 7})
	clear(again)
	if got, e := record.DecodeSuper(s); got.Gen != 3 || e != api.OK {
		t.Error("two answers share memory")
	}
}
