package num64

import (
	"math"
	"math/big"
	"math/rand"
	"testing"

	"gangway/api"
	"gangway/num32"
)

// edges are numbers at which an operation's answer turns, and some between.
func edges() []uint64 {
	l := []uint64{0, 0xdeadbeefcafe1234, 0x123456789abcdef0, 0x5555555555555555, 0xaaaaaaaaaaaaaaaa, 100, 12345}
	for i := 0; i < 64; i++ {
		l = append(l, 1<<i, -(1 << i))
	}
	for _, i := range []int{2, 5, 6, 7, 8, 16, 31, 32, 33, 62, 63} {
		l = append(l, 1<<i-1, 1<<i+1, ^uint64(1<<i), 3<<i)
	}
	return l
}

// others are some more, the same in each run.
func others(n int) []uint64 {
	r := rand.New(rand.NewSource(4))
	l := make([]uint64, n)
	for i := range l {
		l[i] = r.Uint64() >> r.Intn(64)
	}
	return l
}

// allOps are the bytes, what lies about them, and what looks like one of them by its low bits.
func allOps() []int {
	l := []int{math.MinInt, math.MinInt32, 1<<32 + 0x50, 1<<32 + 0x7c, 1<<32 + 0xa7, math.MaxInt32, math.MaxInt}
	for op := -300; op < 600; op++ {
		l = append(l, op)
	}
	return l
}

func isUn(op int) bool {
	return op == 0x50 || op >= 0x79 && op <= 0x7b
}

func isBin(op int) bool {
	return op >= 0x51 && op <= 0x5a || op >= 0x7c && op <= 0x8a
}

func isConv(op int) bool {
	return op == 0xa7 || op == 0xac || op == 0xad
}

// bit is a's bit i, counted from the lowest.
func bit(a uint64, i int) uint64 {
	return a >> i & 1
}

func one(so bool) uint64 {
	if so {
		return 1
	}
	return 0
}

// unByBits is P4.1's word on one number, by counting.
func unByBits(op int, a uint64) uint64 {
	high, low, ones := uint64(64), uint64(64), uint64(0)
	for i := 63; i >= 0; i-- {
		if bit(a, i) == 0 {
			continue
		}
		low = uint64(i)
		ones++
		if high == 64 {
			high = uint64(63 - i)
		}
	}
	switch op {
	case 0x79:
		return high
	case 0x7a:
		return low
	case 0x7b:
		return ones
	}
	return one(high == 64)
}

// P4.1
func TestUn(t *testing.T) {
	for _, a := range append(edges(), others(1000)...) {
		for _, op := range []int{0x50, 0x79, 0x7a, 0x7b} {
			v, e := Un(op, a)
			if w := unByBits(op, a); v != w || e != api.OK {
				t.Fatalf("%#x of %#x: %#x, %d, want %#x", op, a, v, e, w)
			}
		}
	}
}

// P4.1: operations that there are not, those with two numbers, those of layer 3 and the conversions among them.
func TestUnWrong(t *testing.T) {
	for _, op := range allOps() {
		for _, a := range []uint64{0, 1, 77, math.MaxUint64} {
			v, e := Un(op, a)
			if isUn(op) && e != api.OK || !isUn(op) && (v != 0 || e != api.ErrForm) {
				t.Fatalf("%#x of %#x: %#x, %d", op, a, v, e)
			}
		}
	}
}

// modulus is 2^64.
func modulus() *big.Int {
	return new(big.Int).Lsh(big.NewInt(1), 64)
}

// whole is a as a number of any size; s: read as a signed one.
func whole(a uint64, s bool) *big.Int {
	v := new(big.Int).SetUint64(a)
	if s && a >= 1<<63 {
		v.Sub(v, modulus())
	}
	return v
}

// back is a whole number modulo 2^64.
func back(v *big.Int) uint64 {
	return new(big.Int).Mod(v, modulus()).Uint64()
}

// compared is P4.1's word on comparisons, of what order tells (below 0, 0, above 0).
func compared(op, order int) uint64 {
	switch op {
	case 0x51:
		return one(order == 0)
	case 0x52:
		return one(order != 0)
	case 0x53, 0x54:
		return one(order < 0)
	case 0x55, 0x56:
		return one(order > 0)
	case 0x57, 0x58:
		return one(order <= 0)
	}
	return one(order >= 0)
}

// divided is P4.1's word on quotients and what is left, in numbers of any size.
func divided(op int, a, b uint64) (uint64, int) {
	if b == 0 {
		return 0, api.TrapDivide
	}
	s := op == 0x7f || op == 0x81
	q, r := new(big.Int).QuoRem(whole(a, s), whole(b, s), new(big.Int))
	if op == 0x81 || op == 0x82 {
		return back(r), api.TrapNone
	}
	if s && q.Cmp(big.NewInt(math.MaxInt64)) > 0 {
		return 0, api.TrapOverflow
	}
	return back(q), api.TrapNone
}

// moved is P4.1's word on shifts and turns, bit by bit: where each of the answer's bits is from.
func moved(op int, a, b uint64) uint64 {
	n := int(b % 64)
	v := uint64(0)
	for i := 0; i < 64; i++ {
		from := i + n
		if op == 0x86 || op == 0x89 {
			from = i - n
		}
		in := from >= 0 && from < 64
		switch {
		case in:
			v |= bit(a, from) << i
		case op == 0x87:
			v |= bit(a, 63) << i
		case op == 0x89 || op == 0x8a:
			v |= bit(a, (from+64)%64) << i
		}
	}
	return v
}

// byBits is P4.1's word on and, or, exclusive or.
func byBits(op int, a, b uint64) uint64 {
	v := uint64(0)
	for i := 0; i < 64; i++ {
		n := bit(a, i) + bit(b, i)
		v |= one(op == 0x83 && n == 2 || op == 0x84 && n > 0 || op == 0x85 && n == 1) << i
	}
	return v
}

// wantBin is P4.1's word on all operations with two numbers.
func wantBin(op int, a, b uint64) (uint64, int) {
	switch {
	case op <= 0x5a:
		s := op >= 0x53 && op%2 == 1
		return compared(op, whole(a, s).Cmp(whole(b, s))), 0
	case op == 0x7c:
		return back(new(big.Int).Add(whole(a, false), whole(b, false))), 0
	case op == 0x7d:
		return back(new(big.Int).Sub(whole(a, false), whole(b, false))), 0
	case op == 0x7e:
		return back(new(big.Int).Mul(whole(a, false), whole(b, false))), 0
	case op <= 0x82:
		return divided(op, a, b)
	case op <= 0x85:
		return byBits(op, a, b), 0
	}
	return moved(op, a, b), 0
}

func holdBin(t *testing.T, op int, a, b uint64) {
	t.Helper()
	v, trap, e := Bin(op, a, b)
	if w, why := wantBin(op, a, b); v != w || trap != why || e != api.OK {
		t.Fatalf("%#x of %#x, %#x: %#x, %d, %d, want %#x, %d", op, a, b, v, trap, e, w, why)
	}
}

// P4.1: every operation at the edges, and with some more numbers.
func TestBin(t *testing.T) {
	l, m := edges(), others(2000)
	for op := 0x51; op <= 0x8a; op++ {
		if !isBin(op) {
			continue
		}
		for _, a := range l {
			for _, b := range l {
				holdBin(t, op, a, b)
			}
		}
		for i := 1; i < len(m); i++ {
			holdBin(t, op, m[i-1], m[i])
		}
	}
}

// P4.1: chapter 3's examples with 64 for 32, and the edges that it names.
func TestBinNamed(t *testing.T) {
	const least, minus1 = 1 << 63, math.MaxUint64
	for _, c := range []struct {
		op      int
		a, b, v uint64
		trap    int
	}{
		{0x7f, minus1 - 6, 2, minus1 - 2, 0},
		{0x81, minus1 - 6, 2, minus1, 0},
		{0x81, 7, minus1 - 1, 1, 0},
		{0x7f, 7, minus1 - 1, minus1 - 2, 0},
		{0x89, least + 1, 1, 3, 0},
		{0x8a, least + 1, 1, 3 << 62, 0},
		{0x7f, least, minus1, 0, api.TrapOverflow},
		{0x81, least, minus1, 0, 0},
		{0x80, least, minus1, 0, 0},
		{0x82, least, minus1, least, 0},
		{0x7f, least + 1, minus1, 1<<63 - 1, 0},
		{0x7f, least, 1, least, 0},
		{0x7f, minus1, least, 0, 0},
		{0x7f, 1 << 31, minus1, math.MaxUint64 - (1<<31 - 1), 0},
		{0x7f, 1 << 31, math.MaxUint32, 0, 0},
		{0x7f, least, 0, 0, api.TrapDivide},
		{0x7f, 0, 0, 0, api.TrapDivide},
		{0x80, 5, 0, 0, api.TrapDivide},
		{0x81, minus1, 0, 0, api.TrapDivide},
		{0x82, 0, 0, 0, api.TrapDivide},
		{0x7f, 5, 1 << 32, 0, 0},
		{0x86, 1, 32, 1 << 32, 0},
		{0x86, 1, 64, 1, 0},
		{0x86, 1, 65, 2, 0},
		{0x86, 1, 1 << 32, 1, 0},
		{0x87, least, 63, minus1, 0},
		{0x87, least, 127, minus1, 0},
		{0x88, least, minus1, 1, 0},
		{0x89, 5, 64, 5, 0},
		{0x8a, 5, 128, 5, 0},
		{0x53, least, 0, 1, 0},
		{0x54, least, 0, 0, 0},
		{0x53, 1 << 31, 0, 0, 0},
		{0x7c, minus1, 1, 0, 0},
		{0x7d, 0, 1, minus1, 0},
		{0x7e, 1 << 32, 1 << 32, 0, 0},
	} {
		v, trap, e := Bin(c.op, c.a, c.b)
		if v != c.v || trap != c.trap || e != api.OK {
			t.Errorf("%#x of %#x, %#x: %#x, %d, %d, want %#x, %d", c.op, c.a, c.b, v, trap, e, c.v, c.trap)
		}
	}
}

// P4.1: operations that there are not, those with one number among them; no trap is told of them.
func TestBinWrong(t *testing.T) {
	for _, op := range allOps() {
		for _, b := range []uint64{0, 1, 5, math.MaxUint64} {
			v, trap, e := Bin(op, 1<<63, b)
			if isBin(op) && e != api.OK || !isBin(op) && (v != 0 || trap != 0 || e != api.ErrForm) {
				t.Fatalf("%#x by %#x: %#x, %d, %d", op, b, v, trap, e)
			}
		}
	}
}

// wantConv is P4.2's word: what the low 32 bits are as a whole number, modulo 2^64.
func wantConv(op int, a uint64) uint64 {
	v := new(big.Int).Mod(whole(a, false), big.NewInt(1<<32))
	if op == 0xac && v.Cmp(big.NewInt(1<<31)) >= 0 {
		v.Sub(v, big.NewInt(1<<32))
	}
	return back(v)
}

// P4.2
func TestConv(t *testing.T) {
	for _, a := range append(edges(), others(1000)...) {
		for _, op := range []int{0xa7, 0xac, 0xad} {
			v, e := Conv(op, a)
			if w := wantConv(op, a); v != w || e != api.OK {
				t.Fatalf("%#x of %#x: %#x, %d, want %#x", op, a, v, e, w)
			}
		}
	}
}

// P4.2: the chapter's example, the edges of the low half, and high bits that are of no account.
func TestConvNamed(t *testing.T) {
	for _, c := range []struct {
		op   int
		a, v uint64
	}{
		{0xac, 0xffffffff, math.MaxUint64},
		{0xad, 0xffffffff, 0xffffffff},
		{0xa7, 0xffffffff, 0xffffffff},
		{0xac, 0x80000000, 0xffffffff80000000},
		{0xac, 0x7fffffff, 0x7fffffff},
		{0xac, 0xffffffff7fffffff, 0x7fffffff},
		{0xac, 1<<32 + 0x80000000, 0xffffffff80000000},
		{0xad, math.MaxUint64, 0xffffffff},
		{0xa7, math.MaxUint64, 0xffffffff},
		{0xa7, 1 << 32, 0},
		{0xac, 1 << 63, 0},
		{0xad, 1<<63 + 5, 5},
		{0xac, 0, 0},
	} {
		if v, e := Conv(c.op, c.a); v != c.v || e != api.OK {
			t.Errorf("%#x of %#x: %#x, %d, want %#x", c.op, c.a, v, e, c.v)
		}
	}
}

// P4.2: conversions that there are not, the operations and the bytes between among them.
func TestConvWrong(t *testing.T) {
	for _, op := range allOps() {
		for _, a := range []uint64{0, 1, 77, math.MaxUint64} {
			v, e := Conv(op, a)
			if isConv(op) && e != api.OK || !isConv(op) && (v != 0 || e != api.ErrForm) {
				t.Fatalf("%#x of %#x: %#x, %d", op, a, v, e)
			}
		}
	}
}

// must is an operation's number where there is no trap.
func must(t *testing.T, op int, a, b uint64) uint64 {
	t.Helper()
	v, trap, e := Bin(op, a, b)
	if trap != api.TrapNone || e != api.OK {
		t.Fatalf("%#x of %#x, %#x: trap %d, error %d", op, a, b, trap, e)
	}
	return v
}

// P4.3: what follows within the layer.
func TestWhatFollows(t *testing.T) {
	l := append(edges(), others(100)...)
	for _, a := range l {
		for _, b := range l {
			if must(t, 0x7c, a, b) != must(t, 0x7c, b, a) || must(t, 0x7e, a, b) != must(t, 0x7e, b, a) {
				t.Fatalf("%#x, %#x: sum or product goes one way only", a, b)
			}
			if must(t, 0x8a, must(t, 0x89, a, b), b) != a || must(t, 0x89, must(t, 0x8a, a, b), b) != a {
				t.Fatalf("%#x turned by %#x and back is another", a, b)
			}
			if b != 0 && must(t, 0x7c, must(t, 0x7e, must(t, 0x80, a, b), b), must(t, 0x82, a, b)) != a {
				t.Fatalf("%#x by %#x: quotient and what is left are not a", a, b)
			}
			if b == 0 || a == 1<<63 && b == math.MaxUint64 {
				continue
			}
			if must(t, 0x7c, must(t, 0x7e, must(t, 0x7f, a, b), b), must(t, 0x81, a, b)) != a {
				t.Fatalf("%#x by %#x, signed: quotient and what is left are not a", a, b)
			}
		}
	}
}

// holdSmall holds an operation against layer 3's; where whole, the number itself, else its low 32 bits.
func holdSmall(t *testing.T, op64, op32 int, a, b uint64, whole bool) {
	t.Helper()
	v := must(t, op64, a, b)
	w, _, e := num32.Bin(op32, uint32(a), uint32(b))
	if e != api.OK || uint32(v) != w || whole && v != uint64(w) {
		t.Fatalf("%#x of %#x, %#x: %#x, layer 3: %#x", op64, a, b, v, w)
	}
}

// P4.3: below 2^32 sums, products and bits are those of layer 3.
func TestBelow32(t *testing.T) {
	l := append(edges(), others(100)...)
	for i := range l {
		l[i] &= math.MaxUint32
	}
	for _, a := range l {
		ones, _ := num32.Un(0x69, uint32(a))
		if v, e := Un(0x7b, a); v != uint64(ones) || e != api.OK {
			t.Fatalf("ones of %#x: %d, %d, layer 3: %d", a, v, e, ones)
		}
		for _, b := range l {
			holdSmall(t, 0x7c, 0x6a, a, b, a+b <= math.MaxUint32)
			holdSmall(t, 0x7e, 0x6c, a, b, a*b <= math.MaxUint32)
			for i := 0; i < 3; i++ {
				holdSmall(t, 0x83+i, 0x71+i, a, b, true)
			}
		}
	}
}
