package log

import (
	"bytes"

	"gangway/api"
)

// How a log lies on its disk: the first sector, the chooser, tells by its first byte which half holds the records; the others are the halves. A half holds the records' entries, one behind the other, and noughts behind the last one.
//
// Behind a crash each sector of the half is as it was at the last flush or as it was written since. What was written since stands where noughts were; so what was lost is noughts, and is found by the sums of the entries.

const (
	chooser   = 0 // the number of the sector
	halves    = 2
	numberLen = 4 // bytes of a number
	headLen   = 2 * numberLen
)

// entry tells a record as it lies on the disk: its length and its sum, then its bytes, then noughts up to where the next one may begin. Heads begin at each headLen bytes alone, so that none lies across two sectors: it is there as a whole, or not at all.
func entry(r []byte) []byte {
	b := make([]byte, entryLen(r))
	putNumber(b, len(r))
	putNumber(b[numberLen:], sum(r))
	copy(b[headLen:], r)
	return b
}

func entryLen(r []byte) int {
	return headLen + (len(r)+headLen-1)/headLen*headLen
}

// firstRecord tells the record whose entry b begins with, and false, if that is not there as a whole.
func firstRecord(b []byte) ([]byte, bool) {
	if len(b) < headLen {
		return nil, false
	}
	long, held := number(b), number(b[numberLen:])
	b = b[headLen:]
	if long > len(b) || sum(b[:long]) != held {
		return nil, false
	}
	return b[:long], true
}

// sum tells one more than all bytes of b together: noughts in the place of any others make it less, for certain, and it is never 0 as in a head that is not there.
func sum(b []byte) int {
	total := 1
	for _, x := range b {
		total += int(x)
	}
	return total
}

func putNumber(b []byte, n int) {
	for i := range numberLen {
		b[i] = byte(n >> (8 * i))
	}
}

func number(b []byte) int {
	n := 0
	for i := range numberLen {
		n |= int(b[i]) << (8 * i)
	}
	return n
}

// chooserOf tells the chooser's bytes for a half: noughts for the first one, as on a disk of noughts.
func chooserOf(half int) []byte {
	b := make([]byte, api.Sector)
	b[0] = byte(half)
	return b
}

// choose makes the half the one that holds the records.
func (l *Log) choose() api.Errno {
	return l.disk.Write(chooser, chooserOf(l.half))
}

// findHalf finds which half was chosen.
func (l *Log) findHalf() api.Errno {
	b, e := l.disk.Read(chooser)
	if e != api.OK {
		return e
	}
	for half := range halves {
		if bytes.Equal(b, chooserOf(half)) {
			l.half = half
			return api.OK
		}
	}
	return api.ErrForm
}

// findRecords takes the records of the half up to the first one that is not there as a whole.
func (l *Log) findRecords() api.Errno {
	b, e := l.read()
	for e == api.OK {
		r, ok := firstRecord(b[l.end:])
		if !ok {
			break
		}
		l.take(r)
	}
	return e
}

// lay makes the half hold the records, and noughts behind them.
func (l *Log) lay() api.Errno {
	b := make([]byte, 0, l.count()*api.Sector)
	for _, r := range l.records {
		b = append(b, entry(r)...)
	}
	return l.write(0, b[:cap(b)])
}

// read tells the bytes of the half.
func (l *Log) read() ([]byte, api.Errno) {
	all := make([]byte, 0, l.count()*api.Sector)
	for i := range l.count() {
		b, e := l.disk.Read(l.sector(i))
		if e != api.OK {
			return nil, e
		}
		all = append(all, b...)
	}
	return all, api.OK
}

// write makes b the bytes of the half from at on.
func (l *Log) write(at int, b []byte) api.Errno {
	for len(b) > 0 {
		n := min(len(b), api.Sector-at%api.Sector)
		if e := l.writeSector(l.sector(at/api.Sector), at%api.Sector, b[:n]); e != api.OK {
			return e
		}
		at, b = at+n, b[n:]
	}
	return api.OK
}

// writeSector makes b the bytes of the disk's sector i from at on. One that has them already is left as it is.
func (l *Log) writeSector(i, at int, b []byte) api.Errno {
	all, e := l.disk.Read(i)
	if e != api.OK || bytes.Equal(all[at:at+len(b)], b) {
		return e
	}
	copy(all[at:], b)
	return l.disk.Write(i, all)
}

// count tells how many sectors the half has.
func (l *Log) count() int {
	return (l.disk.Count() - 1) / halves
}

// sector tells the number of the half's sector i.
func (l *Log) sector(i int) int {
	return chooser + 1 + l.half*l.count() + i
}
