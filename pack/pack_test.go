package pack_test

import (
	"bytes"
	"hash/crc32"
	"math"
	"slices"
	"strings"
	"testing"

	"cistern/api"
	"cistern/pack"
)

// num and txt are items in form.
func num(n int) api.Item    { return api.Item{Kind: 1, N: n} }
func txt(s string) api.Item { return api.Item{Kind: 2, S: s} }

// is asks for bytes and an error; beside an error there must be none.
func is(t *testing.T, b []byte, e api.Errno, want string, err api.Errno) {
	t.Helper()
	if string(b) != want || e != err {
		t.Errorf("%d bytes %x.. and error %d, not %d bytes %x.. and %d", len(b), b[:min(len(b), 16)], e, len(want), want[:min(len(want), 16)], err)
	}
}

// encodes asks for a list's bytes, and that they are decoded to it.
func encodes(t *testing.T, want string, l ...api.Item) {
	t.Helper()
	b, e := pack.Encode(l)
	is(t, b, e, want, api.OK)
	if got, e := pack.Decode([]byte(want)); !slices.Equal(got, l) || e != api.OK {
		t.Errorf("decoded to %d items and error %d, not %d items", len(got), e, len(l))
	}
}

// refuses asks that a list isn't encoded.
func refuses(t *testing.T, err api.Errno, l ...api.Item) {
	t.Helper()
	b, e := pack.Encode(l)
	is(t, b, e, "", err)
}

// shapeless asks that bytes are those of no list.
func shapeless(t *testing.T, s string) {
	t.Helper()
	if l, e := pack.Decode([]byte(s)); len(l) != 0 || e != api.ErrForm {
		t.Errorf("%x..: %d items and error %d", s[:min(len(s), 16)], len(l), e)
	}
}

func TestEncode(t *testing.T) {
	encodes(t, "")
	encodes(t, "\x01\x02\x01\x00\x00\x00\x00\x00\x00\x02\x02\x00ab", num(258), txt("ab"))
	encodes(t, "\x02\x02\x00ab\x01\x02\x01\x00\x00\x00\x00\x00\x00", txt("ab"), num(258))
	encodes(t, "\x01\x00\x00\x00\x00\x00\x00\x00\x00", num(0))
	encodes(t, "\x01\xff\xff\xff\xff\xff\xff\xff\xff", num(-1))
	encodes(t, "\x01\xff\xff\xff\xff\xff\xff\xff\x7f", num(math.MaxInt))
	encodes(t, "\x01\x00\x00\x00\x00\x00\x00\x00\x80", num(math.MinInt))
	encodes(t, "\x01\x08\x07\x06\x05\x04\x03\x02\x01", num(0x0102030405060708))
	encodes(t, "\x02\x00\x00\x02\x01\x00\x00", txt(""), txt("\x00"))
	encodes(t, "\x02\x04\x00\xff\x00\x01\x02", txt("\xff\x00\x01\x02"))
	for _, n := range []int{255, 256, 257, 49999, 50000} {
		s := strings.Repeat("z", n)
		encodes(t, "\x02"+string([]byte{byte(n % 256), byte(n / 256)})+s+"\x02\x01\x00a", txt(s), txt("a"))
	}
}

func TestEncodeForm(t *testing.T) {
	for _, it := range []api.Item{
		{},
		{N: 1},
		{S: "a"},
		{Kind: 1, N: 5, S: "x"},
		{Kind: 1, S: "x"},
		{Kind: 2, N: 1, S: "x"},
		{Kind: 2, N: -1},
		{Kind: 3},
		{Kind: -1},
		{Kind: 257, N: 1},
		{Kind: 258, S: "a"},
		{Kind: math.MinInt},
		{Kind: math.MaxInt},
	} {
		refuses(t, api.ErrForm, it)
		refuses(t, api.ErrForm, it, num(1), txt("a"))
		refuses(t, api.ErrForm, num(1), txt("a"), it)
	}
}

func TestEncodeBig(t *testing.T) {
	long := strings.Repeat("a", api.MaxText+1)
	refuses(t, api.ErrBig, txt(long))
	refuses(t, api.ErrBig, num(1), txt(long), num(2))
	refuses(t, api.ErrBig, txt(strings.Repeat("a", 1<<16)))
	refuses(t, api.ErrBig, txt(strings.Repeat("a", 1<<16+1)))
	refuses(t, api.ErrBig, slices.Repeat([]api.Item{num(1)}, api.MaxItems+1)...)
	refuses(t, api.ErrBig, slices.Repeat([]api.Item{txt("")}, 2*api.MaxItems)...)

	// ErrBig stands ahead of ErrForm, wherever the two are.
	wrong := api.Item{Kind: 1, N: 5, S: "x"}
	refuses(t, api.ErrBig, wrong, txt(long))
	refuses(t, api.ErrBig, txt(long), wrong)
	refuses(t, api.ErrBig, api.Item{Kind: 2, N: 1, S: long})
	refuses(t, api.ErrBig, slices.Repeat([]api.Item{{}}, api.MaxItems+1)...)

	// What is no text is no text that is too long.
	refuses(t, api.ErrForm, api.Item{Kind: 1, S: long})
	refuses(t, api.ErrForm, api.Item{Kind: 3, S: long})
}

func TestMostItems(t *testing.T) {
	l := slices.Repeat([]api.Item{num(-2), txt("ab")}, api.MaxItems/2)
	encodes(t, strings.Repeat("\x01\xfe\xff\xff\xff\xff\xff\xff\xff\x02\x02\x00ab", api.MaxItems/2), l...)
	shapeless(t, strings.Repeat("\x02\x00\x00", api.MaxItems+1))
	shapeless(t, strings.Repeat("\x02\x00\x00", api.MaxItems)+"\x01\x00\x00\x00\x00\x00\x00\x00\x00")
	shapeless(t, strings.Repeat("\x02\x00\x00", api.MaxItems)+"\x00")
	shapeless(t, strings.Repeat("\x02\x00\x00", 3*api.MaxItems))
}

func TestDecodeForm(t *testing.T) {
	if l, e := pack.Decode(nil); len(l) != 0 || e != api.OK {
		t.Error("of no bytes", l, e)
	}
	for _, s := range []string{
		"\x01\x05",
		"\x03",
		"\x00",
		"\xff",
		"\x01",
		"\x01\x00\x00\x00\x00\x00\x00\x00",
		"\x01\x00\x00\x00\x00\x00\x00\x00\x00\x00",
		"\x02",
		"\x02\x00",
		"\x02\x01\x00",
		"\x02\x02\x00a",
		"\x02\x00\x01a",
		"\x02\x00\x00a",
		"\x03\x01\x00a",
		"\x00\x01\x00a",
	} {
		shapeless(t, s)
		shapeless(t, "\x02\x01\x00a"+s)
		shapeless(t, "\x01\x07\x00\x00\x00\x00\x00\x00\x00"+s)
	}
	for _, n := range []int{50001, 65535} {
		shapeless(t, "\x02"+string([]byte{byte(n % 256), byte(n / 256)})+strings.Repeat("a", n))
	}
	shapeless(t, "\x02\x50\xc3"+strings.Repeat("a", 49999))
}

func TestCrc(t *testing.T) {
	for s, want := range map[string]int{"": 0, "123456789": 3421780262, "\x00": 0xD202EF8D, "\x00\x00\x00\x00": 0x2144DF1C, "\xff\xff\xff\xff": 0xFFFFFFFF, "a": 0xE8B7BE43} {
		if n := pack.Crc([]byte(s)); n != want {
			t.Errorf("Crc(%x) = %d, not %d", s, n, want)
		}
	}
	if n := pack.Crc(nil); n != 0 {
		t.Error("Crc of nil", n)
	}
}

func TestSealAndOpen(t *testing.T) {
	is(t, pack.Seal(nil), api.OK, "\x00\x00\x00\x00", api.OK)
	is(t, pack.Seal([]byte{}), api.OK, "\x00\x00\x00\x00", api.OK)
	is(t, pack.Seal([]byte("123456789")), api.OK, "123456789\x26\x39\xf4\xcb", api.OK)
	for n := range 70 {
		s := strings.Repeat("q", n*n)
		b, e := pack.Open(pack.Seal([]byte(s)))
		is(t, b, e, s, api.OK)
	}
	for _, s := range []string{"", "\x00", "\x00\x00", "\x00\x00\x00", "abc"} {
		b, e := pack.Open([]byte(s))
		is(t, b, e, "", api.ErrForm)
	}
	for _, s := range []string{"\x01\x00\x00\x00", "\x00\x00\x00\x80", "abcd", "123456789\xcb\xf4\x39\x26", "123456789\xd9\xc6\x0b\x34", "\x00\x00\x00\x00\x00"} {
		b, e := pack.Open([]byte(s))
		is(t, b, e, "", api.ErrSum)
	}
}

// A bit that is turned anywhere, or a byte that is gone or put in, is found.
func TestOpenFindsFaults(t *testing.T) {
	sealed := pack.Seal([]byte("a sealed text of some bytes"))
	for bit := range 8 * len(sealed) {
		b := bytes.Clone(sealed)
		b[bit/8] ^= 1 << (bit % 8)
		c, e := pack.Open(b)
		is(t, c, e, "", api.ErrSum)
	}
	for i := range sealed {
		c, e := pack.Open(slices.Delete(bytes.Clone(sealed), i, i+1))
		is(t, c, e, "", api.ErrSum)
		c, e = pack.Open(slices.Insert(bytes.Clone(sealed), i, 0))
		is(t, c, e, "", api.ErrSum)
	}
}

func TestFrame(t *testing.T) {
	ok := func(s string, size int, want string) {
		t.Helper()
		b, e := pack.Frame([]byte(s), size)
		is(t, b, e, want, api.OK)
		b, e = pack.Unframe([]byte(want))
		is(t, b, e, s, api.OK)
	}
	ok("ab", 6, "\x02\x00ab\x00\x00")
	ok("ab", 4, "\x02\x00ab")
	ok("", 2, "\x00\x00")
	ok("", 5, "\x00\x00\x00\x00\x00")
	ok("\x00\x00", 5, "\x02\x00\x00\x00\x00")
	ok(strings.Repeat("a", 254), 256, "\xfe\x00"+strings.Repeat("a", 254))
	ok(strings.Repeat("a", 258), 300, "\x02\x01"+strings.Repeat("a", 258)+strings.Repeat("\x00", 40))
	ok(strings.Repeat("a", 59998), 60000, "\x5e\xea"+strings.Repeat("a", 59998))
	ok("a", 60000, "\x01\x00a"+strings.Repeat("\x00", 59997))
}

func TestFrameRefuses(t *testing.T) {
	no := func(s string, size int, err api.Errno) {
		t.Helper()
		b, e := pack.Frame([]byte(s), size)
		is(t, b, e, "", err)
	}
	for _, size := range []int{math.MinInt, -256, -1, 0, 1, 60001, 65536, 1 << 32, math.MaxInt} {
		no("", size, api.ErrArg)
		no("abc", size, api.ErrArg)
		no(strings.Repeat("a", 70000), size, api.ErrArg)
	}
	no("abc", 4, api.ErrBig)
	no("a", 2, api.ErrBig)
	no(strings.Repeat("a", 255), 256, api.ErrBig)
	no(strings.Repeat("a", 59999), 60000, api.ErrBig)
	no(strings.Repeat("a", 70000), 60000, api.ErrBig)
}

func TestUnframeForm(t *testing.T) {
	for _, s := range []string{
		"",
		"\x00",
		"\x01",
		"\x02\x00ab\x00\x01",
		"\x02\x00ab\x01\x00",
		"\x09\x00\x01",
		"\x01\x00",
		"\x02\x00a",
		"\x00\x01ab",
		"\xff\xffab",
		"\x00\x00\x01",
		"\x00\x00" + strings.Repeat("\x00", 253) + "\x80",
		"\x00\x00" + strings.Repeat("\x00", 59999),
		"\x5f\xea" + strings.Repeat("a", 59999),
		"\xff\xff" + strings.Repeat("a", 65535),
		"\x01\x00a" + strings.Repeat("\x00", 1<<16),
	} {
		b, e := pack.Unframe([]byte(s))
		is(t, b, e, "", api.ErrForm)
	}
}

// spoil writes over an answer and its spare room.
func spoil(b []byte) {
	b = b[:cap(b)]
	for i := range b {
		b[i] ^= 0xA5
	}
}

// Each call of bytes leaves what it is given, and what stands behind it, as it was, and so does a change of its answer.
func TestNoMemoryIsShared(t *testing.T) {
	encoded, _ := pack.Encode([]api.Item{num(7), txt("abc")})
	framed, _ := pack.Frame([]byte("abc"), 9)
	tight, _ := pack.Frame([]byte("abc"), 5)
	calls := []struct {
		given []byte
		call  func(b []byte) []byte
	}{
		{[]byte("abc"), pack.Seal},
		{nil, pack.Seal},
		{[]byte("abc"), func(b []byte) []byte { pack.Crc(b); return nil }},
		{pack.Seal([]byte("abc")), func(b []byte) []byte { c, _ := pack.Open(b); return c }},
		{pack.Seal(nil), func(b []byte) []byte { c, _ := pack.Open(b); return c }},
		{[]byte("abc"), func(b []byte) []byte { c, _ := pack.Frame(b, 9); return c }},
		{[]byte("abc"), func(b []byte) []byte { c, _ := pack.Frame(b, 5); return c }},
		{framed, func(b []byte) []byte { c, _ := pack.Unframe(b); return c }},
		{tight, func(b []byte) []byte { c, _ := pack.Unframe(b); return c }},
	}
	for i, x := range calls {
		room := append(bytes.Clone(x.given), "spare room"...)
		whole := string(room)
		answer := x.call(room[:len(x.given)])
		if string(room) != whole {
			t.Error("call", i, "changes what it is given")
		}
		spoil(answer)
		if string(room) != whole {
			t.Error("call", i, "answers memory that was given")
		}
	}
	room := append(bytes.Clone(encoded), "spare room"...)
	l, _ := pack.Decode(room[:len(encoded)])
	if !bytes.HasPrefix(room, encoded) || !bytes.HasSuffix(room, []byte("spare room")) {
		t.Error("Decode changes what it is given")
	}
	spoil(room)
	if !slices.Equal(l, []api.Item{num(7), txt("abc")}) {
		t.Error("Decode answers memory that was given", l)
	}
}

func TestEncodeChangesNothing(t *testing.T) {
	room := []api.Item{num(7), txt("abc"), num(8), txt("d")}
	want := slices.Clone(room)
	one, _ := pack.Encode(room[:2])
	two, _ := pack.Encode(room[:2])
	if !slices.Equal(room, want) {
		t.Error("Encode changes what it is given", room)
	}
	spoil(one)
	is(t, two, api.OK, "\x01\x07\x00\x00\x00\x00\x00\x00\x00\x02\x03\x00abc", api.OK)
	if !slices.Equal(room, want) {
		t.Error("Encode answers memory that was given", room)
	}
}

// The library's checksum of this polynomial is the same one.
func TestCrcOfMany(t *testing.T) {
	var r dice = 3
	for n := range 600 {
		b := r.bytes(n, 256)
		if got, want := pack.Crc(b), int(crc32.ChecksumIEEE(b)); got != want {
			t.Fatalf("Crc of %d bytes = %d, not %d", n, got, want)
		}
	}
	b := r.bytes(api.MaxBlob, 256)
	if got, want := pack.Crc(b), int(crc32.ChecksumIEEE(b)); got != want {
		t.Errorf("Crc of %d bytes = %d, not %d", len(b), got, want)
	}
}
