// Package flash is layer 1: a device of sectors that forgets what wasn't flushed: see shared/doc/01-flash.md.
package flash

import (
	"slices"

	"cistern/api"
)

// The picks of a crash, but for that of a write that is lost: that one leaves all as it was.
const (
	kept = 1
	tore = 2
)

// sector is what lasts of a sector; a torn one has lost its bytes.
type sector struct {
	bytes [api.Sector]byte
	torn  bool
}

// write is a write that waits.
type write struct {
	at    int
	bytes [api.Sector]byte
}

// Device is a flash device.
type Device struct {
	size    int
	lasting map[int]sector // a sector that isn't in it holds noughts
	waiting []write
	off     bool
	armed   bool
	left    int // how many writes and flushes an armed device carries out still
}

// New: a device of so many sectors.
func New(sectors int) (*Device, api.Errno) {
	if sectors < 1 || sectors > api.MaxSectors {
		return nil, api.ErrArg
	}
	return &Device{size: sectors}, api.OK
}

// Size: how many sectors it has.
func (d *Device) Size() int {
	if d == nil {
		return 0
	}
	return d.size
}

// Read: a sector's bytes, as last written.
func (d *Device) Read(at int) ([]byte, api.Errno) {
	if !d.has(at) {
		return nil, api.ErrArg
	}
	if d.off {
		return nil, api.ErrDown
	}
	for i := len(d.waiting) - 1; i >= 0; i-- {
		if d.waiting[i].at == at {
			return slices.Clone(d.waiting[i].bytes[:]), api.OK
		}
	}
	s := d.lasting[at]
	if s.torn {
		return nil, api.ErrTorn
	}
	return slices.Clone(s.bytes[:]), api.OK
}

// Write: a sector's bytes; they last when they are flushed.
func (d *Device) Write(at int, b []byte) api.Errno {
	if !d.has(at) || len(b) != api.Sector {
		return api.ErrArg
	}
	if !d.spend() {
		return api.ErrDown
	}
	w := write{at: at}
	copy(w.bytes[:], b)
	d.waiting = append(d.waiting, w)
	return api.OK
}

// Flush: all that was written lasts.
func (d *Device) Flush() api.Errno {
	if d == nil {
		return api.ErrArg
	}
	if !d.spend() {
		return api.ErrDown
	}
	for _, w := range d.waiting {
		d.keep(w.at, sector{bytes: w.bytes})
	}
	d.waiting = nil
	return api.OK
}

// Pending: how many writes wait for a flush.
func (d *Device) Pending() int {
	if d == nil {
		return 0
	}
	return len(d.waiting)
}

// Arm: the power goes off behind so many writes and flushes.
func (d *Device) Arm(n int) {
	if d == nil {
		return
	}
	d.armed = n >= 0
	d.left = max(n, 0)
}

// Crash: the power goes off, and comes back; what waited is lost, kept or torn.
func (d *Device) Crash(picks []int) {
	if d == nil {
		return
	}
	for i, w := range d.waiting {
		switch pick(picks, i) {
		case kept:
			d.keep(w.at, sector{bytes: w.bytes})
		case tore:
			d.keep(w.at, sector{torn: true})
		}
	}
	*d = Device{size: d.size, lasting: d.lasting}
}

// Erase: all sectors are new.
func (d *Device) Erase() {
	if d == nil {
		return
	}
	*d = Device{size: d.size}
}

// has: is there such a sector?
func (d *Device) has(at int) bool {
	return d != nil && at >= 0 && at < d.size
}

// spend: is a write or a flush carried out? The power goes off where an armed device has none left.
func (d *Device) spend() bool {
	if d.off {
		return false
	}
	if !d.armed {
		return true
	}
	if d.left == 0 {
		d.off = true
		return false
	}
	d.left--
	return true
}

// keep: what lasts of a sector from now on.
func (d *Device) keep(at int, s sector) {
	if d.lasting == nil {
		d.lasting = make(map[int]sector)
	}
	d.lasting[at] = s
}

// pick: the i-th pick, from 0 to 2; the language's own rest has the sign of what is divided.
func pick(picks []int, i int) int {
	if i >= len(picks) {
		return 0
	}
	return (picks[i]%3 + 3) % 3
}
