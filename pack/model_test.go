package pack_test

import (
	"bytes"
	"encoding/binary"
	"slices"
	"testing"

	"cistern/api"
	"cistern/pack"
)

// dice tells numbers below n, the same ones in each run.
type dice uint64

func (r *dice) below(n int) int {
	*r = *r*6364136223846793005 + 1442695040888963407
	return int(uint64(*r)>>33) % n
}

// bytes tells n bytes below a bound.
func (r *dice) bytes(n, bound int) []byte {
	b := make([]byte, n)
	for i := range b {
		b[i] = byte(r.below(bound))
	}
	return b
}

// item tells an item in form.
func (r *dice) item() api.Item {
	if r.below(2) == 0 {
		return num(int(binary.LittleEndian.Uint64(r.bytes(8, 256))) >> r.below(64))
	}
	return txt(string(r.bytes(r.below(9)*r.below(60), 256)))
}

// plain is the bytes of a list in form, told by the library's own means.
func plain(l []api.Item) []byte {
	var b []byte
	for _, it := range l {
		b = append(b, byte(it.Kind))
		if it.Kind == 1 {
			b = binary.LittleEndian.AppendUint64(b, uint64(it.N))
		} else {
			b = append(binary.LittleEndian.AppendUint16(b, uint16(len(it.S))), it.S...)
		}
	}
	return b
}

func TestEncodeOfMany(t *testing.T) {
	var r dice = 1
	for range 2000 {
		var l []api.Item
		for range r.below(12) {
			l = append(l, r.item())
		}
		encodes(t, string(plain(l)), l...)
	}
}

// inverse asks that what is decoded is encoded to the same bytes, and tells whether it was.
func inverse(t *testing.T, b []byte) bool {
	t.Helper()
	l, e := pack.Decode(b)
	if e != api.OK {
		if e != api.ErrForm || len(l) != 0 {
			t.Errorf("%x: %v %d", b, l, e)
		}
		return false
	}
	if got, e := pack.Encode(l); e != api.OK || !bytes.Equal(got, b) {
		t.Errorf("%x: decoded to %v, that encoded to %x %d", b, l, got, e)
	}
	return true
}

// Of all short bytes below 4, those are decoded that are bytes of lists, and no others.
func TestDecodeAllShort(t *testing.T) {
	lists := map[string]bool{"": true}
	b := make([]byte, 8)
	var texts func(ahead string)
	texts = func(ahead string) {
		lists[ahead] = true
		for n := 0; len(ahead)+3+n <= len(b); n++ {
			head := ahead + string([]byte{2, byte(n), 0})
			for k := range 1 << (2 * n) {
				own := make([]byte, n)
				for i := range own {
					own[i] = byte(k >> (2 * i) & 3)
				}
				texts(head + string(own))
			}
		}
	}
	texts("")
	for size := range len(b) + 1 {
		for k := range 1 << (2 * size) {
			for i := range size {
				b[i] = byte(k >> (2 * i) & 3)
			}
			if got := inverse(t, b[:size]); got != lists[string(b[:size])] {
				t.Fatalf("%x: decoded %v", b[:size], got)
			}
		}
	}
}

func TestDecodeOfMany(t *testing.T) {
	var r dice = 2
	good := 0
	for range 20000 {
		b := plain([]api.Item{r.item(), txt(string(r.bytes(r.below(4), 3))), num(r.below(300))})
		switch r.below(4) {
		case 0:
			b = b[:r.below(len(b)+1)]
		case 1:
			b[r.below(len(b))] = byte(r.below(4))
		case 2:
			b = slices.Insert(b, r.below(len(b)+1), byte(r.below(4)))
		}
		if inverse(t, b) {
			good++
		}
	}
	if good < 1000 || good > 19000 {
		t.Error("the bytes tell little:", good, "were in form")
	}
}

// Of all short bytes below 4, those are unframed that a frame is, and no others.
func TestUnframeAllShort(t *testing.T) {
	b := make([]byte, 8)
	for size := range len(b) + 1 {
		for k := range 1 << (2 * size) {
			for i := range size {
				b[i] = byte(k >> (2 * i) & 3)
			}
			want, found := "", false
			if size >= 2 && b[1] == 0 && int(b[0]) <= size-2 {
				end := 2 + int(b[0])
				if len(bytes.TrimLeft(b[end:size], "\x00")) == 0 {
					want, found = string(b[2:end]), true
				}
			}
			c, e := pack.Unframe(b[:size])
			if found {
				is(t, c, e, want, api.OK)
				f, e := pack.Frame(c, size)
				is(t, f, e, string(b[:size]), api.OK)
			} else {
				is(t, c, e, "", api.ErrForm)
			}
		}
	}
}

func TestFrameOfMany(t *testing.T) {
	var r dice = 4
	for range 3000 {
		b := r.bytes(r.below(20)*r.below(40), 256)
		size := r.below(30)*r.below(40) - 3
		f, e := pack.Frame(b, size)
		switch {
		case size < 2:
			is(t, f, e, "", api.ErrArg)
		case len(b)+2 > size:
			is(t, f, e, "", api.ErrBig)
		default:
			want := append(binary.LittleEndian.AppendUint16(nil, uint16(len(b))), b...)
			want = append(want, bytes.Repeat([]byte{0}, size-len(want))...)
			is(t, f, e, string(want), api.OK)
			c, e := pack.Unframe(f)
			is(t, c, e, string(b), api.OK)
		}
	}
}
