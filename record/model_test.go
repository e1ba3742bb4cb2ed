package record_test

import (
	"bytes"
	"slices"
	"strings"
	"testing"

	"cistern/api"
	"cistern/pack"
	"cistern/record"
)

// dice tells numbers below n, the same ones in each run.
type dice uint64

func (r *dice) below(n int) int {
	*r = *r*6364136223846793005 + 1442695040888963407
	return int(uint64(*r)>>33) % n
}

func (r *dice) text(lengths ...int) string {
	n := lengths[r.below(len(lengths))]
	return strings.Repeat(string([]byte{byte(r.below(256))}), n)
}

// number is mostly small, now and then below 0.
func (r *dice) number() int {
	if r.below(25) == 0 {
		return -1 - r.below(2)
	}
	return r.below(3) << r.below(60)
}

// items are those of some record, or nearly so.
func (r *dice) items() []api.Item {
	var l []api.Item
	switch r.below(4) {
	case 0:
		l = []api.Item{num(1), num(r.number()), num(r.number()), num(r.number())}
	case 1:
		l = append(l, num(2), num(1+r.below(2)), num(r.number()), num(r.number()), num(r.number()), num(r.number()), num(r.number()))
		l = append(l, num(r.number()*r.below(2)), txt(r.text(0, 0, 1, 159, 160, 161)))
	case 2:
		l = []api.Item{num(3), num(r.number()), txt(r.text(0, 1, 159, 160, 161))}
	case 3:
		l = []api.Item{num(4), num(r.number())}
		for range r.below(4) {
			l = append(l, txt(r.text(1, 1, 1, 1, 1, 32, 33, 0)), txt(r.text(0, 1, 1, 2, 3, 48, 49)))
		}
	}
	at := r.below(len(l))
	switch r.below(12) {
	case 0:
		l = slices.Delete(l, at, at+1)
	case 1:
		l = slices.Insert(l, at, num(r.number()))
	case 2:
		l = slices.Insert(l, at, txt(r.text(0, 1)))
	case 3:
		l[at] = num(r.below(6))
	case 4:
		l[at] = txt(r.text(0, 1))
	}
	return l
}

// form tells the kinds of items: a digit each, 1 or 2.
func form(l []api.Item) string {
	s := ""
	for _, it := range l {
		s += string(rune('0' + it.Kind))
	}
	return s
}

// lower: is a number below 0 among items?
func lower(l []api.Item) bool {
	return slices.ContainsFunc(l, func(it api.Item) bool { return it.N < 0 })
}

// which tells the number of the record whose items these are, or 0.
func which(l []api.Item) int {
	f := form(l)
	if len(l) == 0 || lower(l) {
		return 0
	}
	switch {
	case f == "1111" && l[0].N == 1:
		return 1
	case f == "111111112" && l[0].N == 2:
		if l[1].N == 1 && len(l[8].S) <= 160 || l[1].N == 2 && l[7].N == 0 && l[8].S == "" {
			return 2
		}
	case f == "112" && l[0].N == 3 && len(l[2].S) <= 160:
		return 3
	case len(f)%2 == 0 && f == "11"+strings.Repeat("2", max(len(f)-2, 0)) && l[0].N == 4:
		for i := 2; i < len(l); i += 2 {
			k := l[i].S
			if k == "" || len(k) > 32 || len(l[i+1].S) > 48 || i > 2 && k <= l[i-2].S {
				return 0
			}
		}
		return 4
	}
	return 0
}

// fits asks for OK and the same bytes where there is a record, else for ErrForm.
func fits(t *testing.T, there bool, e api.Errno, again, b []byte) {
	t.Helper()
	if there && (e != api.OK || !bytes.Equal(again, b)) {
		t.Errorf("error %d; encoded again to %x, not %x", e, again, b)
	}
	if !there && e != api.ErrForm {
		t.Errorf("error %d, not ErrForm", e)
	}
}

// What is decoded is encoded to the same bytes, and all else is refused.
func TestAnyItems(t *testing.T) {
	r := dice(7)
	var seen [5]int
	for range 20000 {
		l := r.items()
		kind := which(l)
		seen[kind]++
		in := sealed(t, l...)
		n, pairs, e := record.DecodePairs(in)
		again, _ := record.EncodePairs(n, pairs)
		fits(t, kind == 4, e, again, in)
		b, e := pack.Frame(in, 256)
		if e != api.OK {
			continue
		}
		super, e := record.DecodeSuper(b)
		again, _ = record.EncodeSuper(super)
		fits(t, kind == 1, e, again, b)
		log, e := record.DecodeLog(b)
		again, _ = record.EncodeLog(log)
		fits(t, kind == 2, e, again, b)
		home, e := record.DecodeHome(b)
		again, _ = record.EncodeHome(home)
		fits(t, kind == 3, e, again, b)
		if t.Failed() {
			t.Fatal(l)
		}
	}
	for kind, n := range seen {
		if n < 500 {
			t.Errorf("only %d of kind %d", n, kind)
		}
	}
}

// What is encoded is decoded to the same.
func TestAnyRecords(t *testing.T) {
	r := dice(11)
	for range 5000 {
		s := record.Super{Gen: r.number(), Epoch: r.number(), Tail: r.number()}
		b, e := record.EncodeSuper(s)
		if got, back := record.DecodeSuper(b); e == api.OK && (got != s || back != api.OK) {
			t.Fatalf("%v, not %v; error %d", got, s, back)
		}
		l := record.Log{Kind: 1 + r.below(2), Epoch: r.number(), Seq: r.number(), Tx: r.number(), Index: r.number(), Count: r.number()}
		if r.below(2) == 0 {
			l.Page, l.Data = r.number(), r.text(0, 1, 160, 161)
		}
		b, e = record.EncodeLog(l)
		if got, back := record.DecodeLog(b); e == api.OK && (got != l || back != api.OK) {
			t.Fatalf("%v, not %v; error %d", got, l, back)
		}
		h := record.Home{Page: r.number(), Data: r.text(0, 1, 160, 161)}
		b, e = record.EncodeHome(h)
		if got, back := record.DecodeHome(b); e == api.OK && (got != h || back != api.OK) {
			t.Fatalf("%v, not %v; error %d", got, h, back)
		}
	}
}
