package leb

import (
	"bytes"
	"math"
	"math/big"
	"slices"
	"testing"

	"gangway/api"
)

// told is an answer of Uint or Sint, with a number that cannot overflow.
type told struct {
	v string
	n int
	e api.Errno
}

func tellUint(b []byte, bits int) told {
	v, n, e := Uint(b, bits)
	return told{new(big.Int).SetUint64(v).String(), n, e}
}

func tellSint(b []byte, bits int) told {
	v, n, e := Sint(b, bits)
	return told{big.NewInt(v).String(), n, e}
}

func power(k int) *big.Int {
	return new(big.Int).Lsh(big.NewInt(1), uint(k))
}

// wanted is what P1.1 and P1.2 say, word by word, in numbers of any size.
func wanted(b []byte, bits int, signed bool) told {
	none := told{"0", 0, api.ErrForm}
	if bits < 1 || bits > 64 {
		return none
	}
	n := slices.IndexFunc(b, func(x byte) bool { return x < 0x80 }) + 1
	if n == 0 || n > (bits+6)/7 {
		return none
	}
	v := new(big.Int)
	for i, x := range b[:n] {
		v.Add(v, new(big.Int).Mul(big.NewInt(int64(x&0x7f)), power(7*i)))
	}
	least, most := new(big.Int), power(bits)
	if signed {
		least, most = new(big.Int).Neg(power(bits-1)), power(bits-1)
		if b[n-1]&0x40 != 0 {
			v.Sub(v, power(7*n))
		}
	}
	if v.Cmp(least) < 0 || v.Cmp(most) >= 0 {
		return none
	}
	return told{v.String(), n, api.OK}
}

func hold(t *testing.T, b []byte, bits int) {
	t.Helper()
	if got, want := tellUint(b, bits), wanted(b, bits, false); got != want {
		t.Errorf("Uint(%x, %d): %v, not %v", b, bits, got, want)
	}
	if got, want := tellSint(b, bits), wanted(b, bits, true); got != want {
		t.Errorf("Sint(%x, %d): %v, not %v", b, bits, got, want)
	}
}

// TestShort holds every text of one byte, and each behind some first bytes, against the document's words (P1.1, P1.2).
func TestShort(t *testing.T) {
	for bits := -1; bits <= 66; bits++ {
		hold(t, nil, bits)
		hold(t, []byte{}, bits)
		for x := range 256 {
			hold(t, []byte{byte(x)}, bits)
			for _, first := range []byte{0x00, 0x40, 0x7f, 0x80, 0x81, 0xbf, 0xc0, 0xff} {
				hold(t, []byte{first, byte(x)}, bits)
			}
		}
	}
}

// TestLong holds texts of up to twelve groups, with every last byte, against the document's words (P1.1, P1.2).
func TestLong(t *testing.T) {
	for bits := 1; bits <= 64; bits++ {
		for groups := range 12 {
			for _, x := range []byte{0x80, 0xd5, 0xff} {
				b := bytes.Repeat([]byte{x}, groups)
				for last := range 256 {
					hold(t, append(slices.Clone(b), byte(last), 0x55), bits)
				}
			}
		}
	}
}

// TestUint tells P1.1's example and edges.
func TestUint(t *testing.T) {
	for _, c := range []struct {
		b    []byte
		bits int
		want told
	}{
		{[]byte{0xe5, 0x8e, 0x26}, 32, told{"624485", 3, api.OK}},
		{[]byte{0xe5, 0x8e, 0x26, 0xff, 0xff}, 20, told{"624485", 3, api.OK}},
		{[]byte{0xe5, 0x8e, 0x26}, 19, told{"0", 0, api.ErrForm}},
		{[]byte{0xe5, 0x8e}, 32, told{"0", 0, api.ErrForm}},
		{[]byte{0x80, 0x00}, 32, told{"0", 2, api.OK}},
		{[]byte{0x80, 0x00}, 7, told{"0", 0, api.ErrForm}},
		{[]byte{0xff, 0xff, 0xff, 0xff, 0x0f}, 32, told{"4294967295", 5, api.OK}},
		{[]byte{0x80, 0x80, 0x80, 0x80, 0x10}, 32, told{"0", 0, api.ErrForm}},
		{[]byte{0xff, 0xff, 0xff, 0xff, 0xff, 0xff, 0xff, 0xff, 0xff, 0x01}, 64, told{"18446744073709551615", 10, api.OK}},
		{[]byte{0x80, 0x80, 0x80, 0x80, 0x80, 0x80, 0x80, 0x80, 0x80, 0x02}, 64, told{"0", 0, api.ErrForm}},
	} {
		if got := tellUint(c.b, c.bits); got != c.want {
			t.Errorf("%x, %d: %v, not %v", c.b, c.bits, got, c.want)
		}
	}
}

// TestSint tells P1.2's example and edges.
func TestSint(t *testing.T) {
	for _, c := range []struct {
		b    []byte
		bits int
		want told
	}{
		{[]byte{0xc0, 0xbb, 0x78}, 32, told{"-123456", 3, api.OK}},
		{[]byte{0xc0, 0xbb, 0x78, 0x80}, 18, told{"-123456", 3, api.OK}},
		{[]byte{0xc0, 0xbb, 0x78}, 17, told{"0", 0, api.ErrForm}},
		{[]byte{0xc0, 0xbb}, 32, told{"0", 0, api.ErrForm}},
		{[]byte{0x7f}, 1, told{"-1", 1, api.OK}},
		{[]byte{0x01}, 1, told{"0", 0, api.ErrForm}},
		{[]byte{0x40}, 1, told{"0", 0, api.ErrForm}},
		{[]byte{0x80, 0x80, 0x80, 0x80, 0x78}, 32, told{"-2147483648", 5, api.OK}},
		{[]byte{0xff, 0xff, 0xff, 0xff, 0x77}, 32, told{"0", 0, api.ErrForm}},
		{[]byte{0xff, 0xff, 0xff, 0xff, 0x07}, 32, told{"2147483647", 5, api.OK}},
		{[]byte{0x80, 0x80, 0x80, 0x80, 0x08}, 32, told{"0", 0, api.ErrForm}},
		{[]byte{0x80, 0x80, 0x80, 0x80, 0x80, 0x80, 0x80, 0x80, 0x80, 0x7f}, 64, told{"-9223372036854775808", 10, api.OK}},
		{[]byte{0xff, 0xff, 0xff, 0xff, 0xff, 0xff, 0xff, 0xff, 0xff, 0x00}, 64, told{"9223372036854775807", 10, api.OK}},
		{[]byte{0xff, 0xff, 0xff, 0xff, 0xff, 0xff, 0xff, 0xff, 0xff, 0x01}, 64, told{"0", 0, api.ErrForm}},
		{[]byte{0xff, 0xff, 0xff, 0xff, 0xff, 0xff, 0xff, 0xff, 0xff, 0x3f}, 64, told{"0", 0, api.ErrForm}},
		{[]byte{0xff, 0xff, 0xff, 0xff, 0xff, 0xff, 0xff, 0xff, 0xff, 0x7e}, 64, told{"0", 0, api.ErrForm}},
	} {
		if got := tellSint(c.b, c.bits); got != c.want {
			t.Errorf("%x, %d: %v, not %v", c.b, c.bits, got, c.want)
		}
	}
}

// TestWrongBits: bits beyond 1 to 64, and texts that never end, are refused (P1.1, P1.2, R1).
func TestWrongBits(t *testing.T) {
	none := told{"0", 0, api.ErrForm}
	for _, bits := range []int{math.MinInt, math.MinInt32, -64, -1, 0, 65, 70, 128, math.MaxInt32, math.MaxInt - 5, math.MaxInt} {
		for _, b := range [][]byte{nil, {0}, {0x7f}, {0x80, 0}} {
			if u, s := tellUint(b, bits), tellSint(b, bits); u != none || s != none {
				t.Errorf("%x, %d: %v, %v", b, bits, u, s)
			}
		}
	}
	endless := bytes.Repeat([]byte{0x80}, 1<<16)
	if u, s := tellUint(endless, 64), tellSint(endless, 64); u != none || s != none {
		t.Errorf("endless: %v, %v", u, s)
	}
}

// edges are the numbers beside each power of two, by their 64 bits.
func edges() []uint64 {
	var l []uint64
	for k := range 64 {
		for d := range uint64(5) {
			l = append(l, 1<<k+d-2, -(1<<k + d - 2), 0x9e3779b97f4a7c15>>k+d)
		}
	}
	return l
}

// TestPut: as few bytes as may be (P1.3).
func TestPut(t *testing.T) {
	for _, c := range []struct {
		got, want []byte
	}{
		{PutUint(0), []byte{0x00}},
		{PutUint(127), []byte{0x7f}},
		{PutUint(128), []byte{0x80, 0x01}},
		{PutUint(624485), []byte{0xe5, 0x8e, 0x26}},
		{PutUint(math.MaxUint64), []byte{0xff, 0xff, 0xff, 0xff, 0xff, 0xff, 0xff, 0xff, 0xff, 0x01}},
		{PutSint(0), []byte{0x00}},
		{PutSint(-1), []byte{0x7f}},
		{PutSint(63), []byte{0x3f}},
		{PutSint(64), []byte{0xc0, 0x00}},
		{PutSint(-64), []byte{0x40}},
		{PutSint(-65), []byte{0xbf, 0x7f}},
		{PutSint(-123456), []byte{0xc0, 0xbb, 0x78}},
		{PutSint(math.MaxInt64), []byte{0xff, 0xff, 0xff, 0xff, 0xff, 0xff, 0xff, 0xff, 0xff, 0x00}},
		{PutSint(math.MinInt64), []byte{0x80, 0x80, 0x80, 0x80, 0x80, 0x80, 0x80, 0x80, 0x80, 0x7f}},
	} {
		if !bytes.Equal(c.got, c.want) {
			t.Errorf("%x, not %x", c.got, c.want)
		}
	}
	for _, u := range edges() {
		if got, want := len(PutUint(u)), fewestUint(u); got != want {
			t.Errorf("PutUint(%d): %d bytes, not %d", u, got, want)
		}
		if got, want := len(PutSint(int64(u))), fewestSint(int64(u)); got != want {
			t.Errorf("PutSint(%d): %d bytes, not %d", int64(u), got, want)
		}
	}
}

func fewestUint(u uint64) int {
	n := 1
	for new(big.Int).SetUint64(u).Cmp(power(7*n)) >= 0 {
		n++
	}
	return n
}

func fewestSint(s int64) int {
	n := 1
	for v := big.NewInt(s); v.Cmp(power(7*n-1)) >= 0 || v.Cmp(new(big.Int).Neg(power(7*n-1))) < 0; {
		n++
	}
	return n
}

// TestUndo: what is put is read, and what is read and put is the number's own bytes (P1.4).
func TestUndo(t *testing.T) {
	for _, u := range edges() {
		b := PutUint(u)
		if v, n, e := Uint(append(b, 0xff), 64); v != u || n != len(b) || e != api.OK {
			t.Errorf("Uint of PutUint(%d): %d, %d, %d", u, v, n, e)
		}
		s := int64(u)
		b = PutSint(s)
		if v, n, e := Sint(append(b, 0xff), 64); v != s || n != len(b) || e != api.OK {
			t.Errorf("Sint of PutSint(%d): %d, %d, %d", s, v, n, e)
		}
	}
	for x := range 256 {
		for y := range 128 {
			for _, b := range [][]byte{{byte(y)}, {byte(x) | 0x80, byte(y)}, {byte(x) | 0x80, 0xaa, byte(y)}} {
				if v, n, _ := Uint(b, 32); n == fewestUint(v) && !bytes.Equal(PutUint(v), b) {
					t.Errorf("PutUint of Uint(%x): %x", b, PutUint(v))
				}
				if v, n, _ := Sint(b, 32); n == fewestSint(v) && !bytes.Equal(PutSint(v), b) {
					t.Errorf("PutSint of Sint(%x): %x", b, PutSint(v))
				}
			}
		}
	}
}

// longer is b with one group more, of noughts or of ones.
func longer(b []byte, group byte) []byte {
	b = slices.Clone(b)
	b[len(b)-1] |= 0x80
	return append(b, group)
}

// TestLonger: noughts, or ones below 0, are added while there is room, and not one more (P1.4).
func TestLonger(t *testing.T) {
	for bits := 1; bits <= 64; bits++ {
		room := (bits + 6) / 7
		for _, u := range edges() {
			u &= math.MaxUint64 >> (64 - bits)
			for b := PutUint(u); len(b) <= room+1; b = longer(b, 0) {
				v, n, e := Uint(b, bits)
				if fits := len(b) <= room; fits && (v != u || n != len(b) || e != api.OK) || !fits && (v != 0 || n != 0 || e != api.ErrForm) {
					t.Errorf("Uint(%x, %d): %d, %d, %d, not %d", b, bits, v, n, e, u)
				}
			}
			s := int64(u<<(64-bits)) >> (64 - bits)
			group := byte(s>>63) & 0x7f
			for b := PutSint(s); len(b) <= room+1; b = longer(b, group) {
				v, n, e := Sint(b, bits)
				if fits := len(b) <= room; fits && (v != s || n != len(b) || e != api.OK) || !fits && (v != 0 || n != 0 || e != api.ErrForm) {
					t.Errorf("Sint(%x, %d): %d, %d, %d, not %d", b, bits, v, n, e, s)
				}
			}
		}
	}
}

// TestOwnMemory: bytes that are handed in stay, and bytes that are told are the caller's alone (R2).
func TestOwnMemory(t *testing.T) {
	b := []byte{0xe5, 0x8e, 0x26, 0x80}
	kept := slices.Clone(b)
	Uint(b, 32)
	Sint(b, 32)
	if !bytes.Equal(b, kept) {
		t.Errorf("changed: %x", b)
	}
	for _, put := range []func() []byte{
		func() []byte { return PutUint(0) },
		func() []byte { return PutUint(624485) },
		func() []byte { return PutSint(0) },
		func() []byte { return PutSint(-123456) },
	} {
		first := put()
		want := slices.Clone(first)
		second := put()
		for i := range first[:cap(first)] {
			first[:cap(first)][i] ^= 0xff
		}
		if third := put(); !bytes.Equal(second, want) || !bytes.Equal(third, want) {
			t.Errorf("%x, %x, not %x", second, third, want)
		}
	}
}
