package num32

import (
	"math"
	"math/big"
	"math/rand"
	"testing"

	"gangway/api"
)

// edges are numbers at which an operation's answer turns, and some between.
func edges() []uint32 {
	l := []uint32{0, 0xdeadbeef, 0x12345678, 0x55555555, 0xaaaaaaaa, 100, 12345}
	for i := 0; i < 32; i++ {
		l = append(l, 1<<i, 1<<i-1, 1<<i+1, -(1 << i), ^uint32(1<<i))
	}
	return l
}

// others are some more, the same in each run.
func others(n int) []uint32 {
	r := rand.New(rand.NewSource(3))
	l := make([]uint32, n)
	for i := range l {
		l[i] = r.Uint32() >> r.Intn(32)
	}
	return l
}

// wrongOps are no bytes of an operation, some of them only just.
func wrongOps() []int {
	return []int{math.MinInt, math.MinInt32, -0x46, -1, 0, 1, 0x44, 0x50, 0x66, 0x79, 0x7a, 0xff, 0x100, 0x145, 0x146, 0x16a, 1<<32 + 0x45, 1<<32 + 0x6a, math.MaxInt32, math.MaxInt}
}

// bit is a's bit i, counted from the lowest.
func bit(a uint32, i int) uint32 {
	return a >> i & 1
}

// unByBits is P3.1 by counting.
func unByBits(op int, a uint32) uint32 {
	high, low, ones := uint32(32), uint32(32), uint32(0)
	for i := 31; i >= 0; i-- {
		if bit(a, i) == 0 {
			continue
		}
		low = uint32(i)
		ones++
		if high == 32 {
			high = uint32(31 - i)
		}
	}
	switch op {
	case 0x67:
		return high
	case 0x68:
		return low
	case 0x69:
		return ones
	}
	if high == 32 {
		return 1
	}
	return 0
}

// P3.1
func TestUn(t *testing.T) {
	for _, a := range append(edges(), others(1000)...) {
		for _, op := range []int{0x45, 0x67, 0x68, 0x69} {
			v, e := Un(op, a)
			if w := unByBits(op, a); v != w || e != api.OK {
				t.Fatalf("%#x of %#x: %#x, %d, want %#x", op, a, v, e, w)
			}
		}
	}
}

// P3.1: operations that there are not, those with two numbers among them.
func TestUnWrong(t *testing.T) {
	right := map[int]int{0x45: 1, 0x67: 1, 0x68: 1, 0x69: 1}
	ops := wrongOps()
	for op := -300; op < 600; op++ {
		ops = append(ops, op)
	}
	for _, op := range ops {
		for _, a := range []uint32{0, 1, 77, math.MaxUint32} {
			v, e := Un(op, a)
			if right[op] == 1 && e != api.OK || right[op] == 0 && (v != 0 || e != api.ErrForm) {
				t.Fatalf("%#x of %#x: %#x, %d", op, a, v, e)
			}
		}
	}
}

// whole is a as a number of any size; s: read as a signed one.
func whole(a uint32, s bool) *big.Int {
	v := big.NewInt(int64(a))
	if s && a >= 1<<31 {
		v.Sub(v, big.NewInt(1<<32))
	}
	return v
}

// back is a whole number modulo 2^32.
func back(v *big.Int) uint32 {
	return uint32(new(big.Int).Mod(v, big.NewInt(1<<32)).Uint64())
}

func one(so bool) uint32 {
	if so {
		return 1
	}
	return 0
}

// compared is P3.2's word on comparisons, of what order tells (below 0, 0, above 0).
func compared(op, order int) uint32 {
	switch op {
	case 0x46:
		return one(order == 0)
	case 0x47:
		return one(order != 0)
	case 0x48, 0x49:
		return one(order < 0)
	case 0x4a, 0x4b:
		return one(order > 0)
	case 0x4c, 0x4d:
		return one(order <= 0)
	}
	return one(order >= 0)
}

// divided is P3.2's word on quotients and what is left, in numbers of any size.
func divided(op int, a, b uint32) (uint32, int) {
	if b == 0 {
		return 0, api.TrapDivide
	}
	s := op == 0x6d || op == 0x6f
	q, r := new(big.Int).QuoRem(whole(a, s), whole(b, s), new(big.Int))
	if op == 0x6f || op == 0x70 {
		return back(r), api.TrapNone
	}
	if s && q.Cmp(big.NewInt(math.MaxInt32)) > 0 {
		return 0, api.TrapOverflow
	}
	return back(q), api.TrapNone
}

// moved is P3.2's word on shifts and turns, bit by bit: where each of the answer's bits is from.
func moved(op int, a, b uint32) uint32 {
	n := int(b % 32)
	v := uint32(0)
	for i := 0; i < 32; i++ {
		from := i + n
		if op == 0x74 || op == 0x77 {
			from = i - n
		}
		in := from >= 0 && from < 32
		switch {
		case in:
			v |= bit(a, from) << i
		case op == 0x75:
			v |= bit(a, 31) << i
		case op == 0x77 || op == 0x78:
			v |= bit(a, (from+32)%32) << i
		}
	}
	return v
}

// byBits is P3.2's word on and, or, exclusive or.
func byBits(op int, a, b uint32) uint32 {
	v := uint32(0)
	for i := 0; i < 32; i++ {
		n := bit(a, i) + bit(b, i)
		v |= one(op == 0x71 && n == 2 || op == 0x72 && n > 0 || op == 0x73 && n == 1) << i
	}
	return v
}

// wantBin is P3.2's word on all of them.
func wantBin(op int, a, b uint32) (uint32, int) {
	switch {
	case op <= 0x4f:
		s := op >= 0x48 && op%2 == 0
		return compared(op, whole(a, s).Cmp(whole(b, s))), 0
	case op == 0x6a:
		return back(new(big.Int).Add(whole(a, false), whole(b, false))), 0
	case op == 0x6b:
		return back(new(big.Int).Sub(whole(a, false), whole(b, false))), 0
	case op == 0x6c:
		return back(new(big.Int).Mul(whole(a, false), whole(b, false))), 0
	case op <= 0x70:
		return divided(op, a, b)
	case op <= 0x73:
		return byBits(op, a, b), 0
	}
	return moved(op, a, b), 0
}

func isBin(op int) bool {
	return op >= 0x46 && op <= 0x4f || op >= 0x6a && op <= 0x78
}

func holdBin(t *testing.T, op int, a, b uint32) {
	t.Helper()
	v, trap, e := Bin(op, a, b)
	if w, why := wantBin(op, a, b); v != w || trap != why || e != api.OK {
		t.Fatalf("%#x of %#x, %#x: %#x, %d, %d, want %#x, %d", op, a, b, v, trap, e, w, why)
	}
}

// P3.2: every operation at the edges, and with some more numbers.
func TestBin(t *testing.T) {
	l, m := edges(), others(2000)
	for op := 0x46; op <= 0x78; op++ {
		if !isBin(op) {
			continue
		}
		for _, a := range l {
			for _, b := range l {
				holdBin(t, op, a, b)
			}
		}
		for i := 1; i < len(m); i++ {
			holdBin(t, op, m[i-1], m[i])
		}
	}
}

// P3.2: the chapter's examples, and the edges that it names.
func TestBinNamed(t *testing.T) {
	const least, minus1 = 1 << 31, math.MaxUint32
	for _, c := range []struct {
		op      int
		a, b, v uint32
		trap    int
	}{
		{0x6d, minus1 - 6, 2, minus1 - 2, 0},
		{0x6f, minus1 - 6, 2, minus1, 0},
		{0x6f, 7, minus1 - 1, 1, 0},
		{0x6d, 7, minus1 - 1, minus1 - 2, 0},
		{0x77, 0x80000001, 1, 3, 0},
		{0x78, 0x80000001, 1, 0xc0000000, 0},
		{0x6d, least, minus1, 0, api.TrapOverflow},
		{0x6f, least, minus1, 0, 0},
		{0x6e, least, minus1, 0, 0},
		{0x70, least, minus1, least, 0},
		{0x6d, least + 1, minus1, 1<<31 - 1, 0},
		{0x6d, least, 1, least, 0},
		{0x6d, minus1, least, 0, 0},
		{0x6d, least, 0, 0, api.TrapDivide},
		{0x6d, 0, 0, 0, api.TrapDivide},
		{0x6e, 5, 0, 0, api.TrapDivide},
		{0x6f, minus1, 0, 0, api.TrapDivide},
		{0x70, 0, 0, 0, api.TrapDivide},
		{0x74, 1, 32, 1, 0},
		{0x74, 1, 33, 2, 0},
		{0x75, least, 31, minus1, 0},
		{0x75, least, 63, minus1, 0},
		{0x76, least, minus1, 1, 0},
		{0x77, 5, 32, 5, 0},
		{0x78, 5, 64, 5, 0},
		{0x48, least, 0, 1, 0},
		{0x49, least, 0, 0, 0},
		{0x6a, minus1, 1, 0, 0},
		{0x6b, 0, 1, minus1, 0},
		{0x6c, 1 << 16, 1 << 16, 0, 0},
	} {
		v, trap, e := Bin(c.op, c.a, c.b)
		if v != c.v || trap != c.trap || e != api.OK {
			t.Errorf("%#x of %#x, %#x: %#x, %d, %d, want %#x, %d", c.op, c.a, c.b, v, trap, e, c.v, c.trap)
		}
	}
}

// P3.2: operations that there are not, those with one number among them; no trap is told of them.
func TestBinWrong(t *testing.T) {
	ops := wrongOps()
	for op := -300; op < 600; op++ {
		ops = append(ops, op)
	}
	for _, op := range ops {
		for _, b := range []uint32{0, 1, 5, math.MaxUint32} {
			v, trap, e := Bin(op, 1<<31, b)
			if isBin(op) && e != api.OK || !isBin(op) && (v != 0 || trap != 0 || e != api.ErrForm) {
				t.Fatalf("%#x by %#x: %#x, %d, %d", op, b, v, trap, e)
			}
		}
	}
}

// must is an operation's number where there is no trap.
func must(t *testing.T, op int, a, b uint32) uint32 {
	t.Helper()
	v, trap, e := Bin(op, a, b)
	if trap != api.TrapNone || e != api.OK {
		t.Fatalf("%#x of %#x, %#x: trap %d, error %d", op, a, b, trap, e)
	}
	return v
}

// P3.3
func TestWhatFollows(t *testing.T) {
	l := append(edges(), others(100)...)
	for _, a := range l {
		for _, b := range l {
			if must(t, 0x6a, a, b) != must(t, 0x6a, b, a) || must(t, 0x6c, a, b) != must(t, 0x6c, b, a) {
				t.Fatalf("%#x, %#x: sum or product goes one way only", a, b)
			}
			if must(t, 0x78, must(t, 0x77, a, b), b) != a || must(t, 0x77, must(t, 0x78, a, b), b) != a {
				t.Fatalf("%#x turned by %#x and back is another", a, b)
			}
			if b != 0 && must(t, 0x6a, must(t, 0x6c, must(t, 0x6e, a, b), b), must(t, 0x70, a, b)) != a {
				t.Fatalf("%#x by %#x: quotient and what is left are not a", a, b)
			}
			if b == 0 || a == 1<<31 && b == math.MaxUint32 {
				continue
			}
			if must(t, 0x6a, must(t, 0x6c, must(t, 0x6d, a, b), b), must(t, 0x6f, a, b)) != a {
				t.Fatalf("%#x by %#x, signed: quotient and what is left are not a", a, b)
			}
		}
	}
}
