package flash_test

import (
	"slices"
	"testing"

	"cistern/api"
	"cistern/flash"
)

// model is a device told plainly: each sector is a text, a torn one the empty one.
type model struct {
	last []string
	at   []int
	text []string
	on   bool
	arm  int
}

func newModel(sectors int) *model {
	return &model{last: slices.Repeat([]string{string(full(0))}, sectors), on: true, arm: -1}
}

func (m *model) read(at int) (string, api.Errno) {
	if at < 0 || at >= len(m.last) {
		return "", api.ErrArg
	}
	if !m.on {
		return "", api.ErrDown
	}
	s := m.last[at]
	for i := range m.at {
		if m.at[i] == at {
			s = m.text[i]
		}
	}
	if s == "" {
		return "", api.ErrTorn
	}
	return s, api.OK
}

func (m *model) count() api.Errno {
	if m.arm == 0 {
		m.on = false
	}
	if !m.on {
		return api.ErrDown
	}
	if m.arm > 0 {
		m.arm--
	}
	return api.OK
}

func (m *model) write(at int, s string) api.Errno {
	if at < 0 || at >= len(m.last) || len(s) != 256 {
		return api.ErrArg
	}
	e := m.count()
	if e == api.OK {
		m.at = append(m.at, at)
		m.text = append(m.text, s)
	}
	return e
}

func (m *model) flush() api.Errno {
	e := m.count()
	if e == api.OK {
		for i := range m.at {
			m.last[m.at[i]] = m.text[i]
		}
		m.at, m.text = nil, nil
	}
	return e
}

func (m *model) crash(picks []int) {
	for i := range m.at {
		p := 0
		if i < len(picks) {
			p = picks[i]
		}
		for p < 0 {
			p += 3
		}
		switch p % 3 {
		case 1:
			m.last[m.at[i]] = m.text[i]
		case 2:
			m.last[m.at[i]] = ""
		}
	}
	m.at, m.text, m.on, m.arm = nil, nil, true, -1
}

// dice tells numbers below n, the same ones in each run.
type dice uint64

func (r *dice) below(n int) int {
	*r = *r*6364136223846793005 + 1442695040888963407
	return int(uint64(*r)>>33) % n
}

func (r *dice) picks() []int {
	var l []int
	for range r.below(5) {
		l = append(l, r.below(13)-6)
	}
	return l
}

// step does one thing to a device and to its model, and asks that they answer alike.
func step(t *testing.T, r *dice, d *flash.Device, m *model) {
	t.Helper()
	switch r.below(12) {
	case 0, 1, 2, 3, 4, 5:
		b := full(byte('a' + r.below(26)))
		if r.below(8) == 0 {
			b = b[1:]
		}
		at := r.below(6) - 1
		is(t, d.Write(at, b), m.write(at, string(b)))
	case 6, 7:
		is(t, d.Flush(), m.flush())
	case 8:
		n := r.below(8) - 2
		d.Arm(n)
		m.arm = max(n, -1)
	case 9, 10:
		l := r.picks()
		d.Crash(l)
		m.crash(l)
	case 11:
		if r.below(6) == 0 {
			d.Erase()
			*m = *newModel(len(m.last))
		}
	}
	pending(t, d, len(m.at))
	for at := -1; at <= len(m.last); at++ {
		b, e := d.Read(at)
		s, want := m.read(at)
		if string(b) != s || e != want {
			t.Errorf("sector %d: %q.. %d, not %q.. %d", at, b[:min(len(b), 3)], e, s[:min(len(s), 3)], want)
		}
	}
}

func TestAnyOrder(t *testing.T) {
	for seed := range 40 {
		r := dice(seed)
		d, m := device(t, 4), newModel(4)
		for i := range 300 {
			step(t, &r, d, m)
			if t.Failed() {
				t.Fatal("seed", seed, "step", i)
			}
		}
	}
}
