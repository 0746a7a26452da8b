// Package leb: numbers by groups of seven bits: see ../../shared/doc/01-leb.md.
package leb

import "gangway/api"

const (
	groupBits = 7
	groupMask = 0x7f
	moreBit   = 0x80 // of each byte but a number's last one
	signBit   = 0x40 // of a signed number's last byte
	mostBits  = 64
)

// place is where a number's bytes begin, and how many bits the number may have.
type place struct {
	b    []byte
	bits int
}

// Uint reads the unsigned number that b begin with.
func Uint(b []byte, bits int) (v uint64, n int, e api.Errno) {
	p := place{b: b, bits: bits}
	return read(p, p.unsigned)
}

// Sint reads the signed number that b begin with.
func Sint(b []byte, bits int) (v int64, n int, e api.Errno) {
	p := place{b: b, bits: bits}
	return read(p, p.signed)
}

// read is what both kinds of numbers share: only what the groups mean is their reader's.
func read[N uint64 | int64](p place, reader func(n int) (N, bool)) (v N, n int, e api.Errno) {
	n = p.length()
	if n == 0 {
		return 0, 0, api.ErrForm
	}
	v, ok := reader(n)
	if !ok {
		return 0, 0, api.ErrForm
	}
	return v, n, api.OK
}

// length tells how many bytes the number has; 0, if it has too few or too many, or bits may not be.
func (p place) length() int {
	if p.bits < 1 || p.bits > mostBits {
		return 0
	}
	most := (p.bits + groupBits - 1) / groupBits
	for i := 0; i < most && i < len(p.b); i++ {
		if p.b[i]&moreBit == 0 {
			return i + 1
		}
	}
	return 0
}

// unsigned puts n groups together; false, if the number has more bits than it may.
// Only the last group can go beyond them, since all n begin within bits.
func (p place) unsigned(n int) (uint64, bool) {
	last := uint64(p.b[n-1])
	if last>>p.room(n) != 0 {
		return 0, false
	}
	return last<<start(n) | p.below(n), true
}

// signed is unsigned's like: what the last group has beyond the highest bit must be its sign's.
func (p place) signed(n int) (int64, bool) {
	last := int64(p.b[n-1])
	if last&signBit != 0 {
		last -= 1 << groupBits
	}
	beyond := last >> (p.room(n) - 1)
	if beyond != 0 && beyond != -1 {
		return 0, false
	}
	return last<<start(n) | int64(p.below(n)), true
}

// start tells the place of the nth group's lowest bit.
func start(n int) int {
	return (n - 1) * groupBits
}

// room tells how many bits are left for the nth group: at least 1, more than seven where others could follow.
func (p place) room(n int) int {
	return p.bits - start(n)
}

// below puts together the groups ahead of the nth one.
func (p place) below(n int) uint64 {
	v := uint64(0)
	for i := 0; i < n-1; i++ {
		v |= uint64(p.b[i]&groupMask) << (i * groupBits)
	}
	return v
}

// PutUint tells n's bytes, as few as may be.
func PutUint(n uint64) []byte {
	var b []byte
	for n > groupMask {
		b = append(b, byte(n&groupMask)|moreBit)
		n >>= groupBits
	}
	return append(b, byte(n))
}

// PutSint tells n's bytes, as few as may be: the last group must have room for the sign.
func PutSint(n int64) []byte {
	var b []byte
	for n < -signBit || n >= signBit {
		b = append(b, byte(n&groupMask)|moreBit)
		n >>= groupBits
	}
	return append(b, byte(n&groupMask))
}
