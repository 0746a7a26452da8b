package mem

import (
	"bytes"
	"math"
	"math/rand"
	"testing"

	"gangway/api"
)

const page = 65536

func make1(t *testing.T, lim api.Limits, limit int) *Memory {
	t.Helper()
	m, e := New(lim, limit)
	if e != api.OK || m == nil {
		t.Fatalf("New(%v, %d): %d", lim, limit, e)
	}
	return m
}

// pages makes a memory that has n pages, and may have no more.
func pages(t *testing.T, n int) *Memory {
	t.Helper()
	return make1(t, api.Limits{Min: n, Max: n}, 16)
}

// filled makes a memory of n pages none of whose bytes is like the one beside it, and none a nought.
func filled(t *testing.T, n int) *Memory {
	t.Helper()
	m := pages(t, n)
	if e := m.Write(0, pattern(n*page)); e != api.OK {
		t.Fatalf("Write: %d", e)
	}
	return m
}

func pattern(n int) []byte {
	b := make([]byte, n)
	for k := range b {
		b[k] = byte(1 + k%251)
	}
	return b
}

// all reads the whole of it.
func all(t *testing.T, m *Memory) []byte {
	t.Helper()
	b, e := m.Read(0, m.Size()*page)
	if e != api.OK || len(b) != m.Size()*page {
		t.Fatalf("Read of all: %d bytes, %d", len(b), e)
	}
	return b
}

// edges are numbers about which something ends.
func edges() []int {
	var l []int
	for _, n := range []int{0, 1, 2, 3, 4, 8, 15, 16, 17, page, 2 * page, 16 * page, 1 << 31, 1 << 32, 1 << 33, 1 << 62, math.MaxInt - 9} {
		for d := -9; d <= 9; d++ {
			l = append(l, n+d)
		}
	}
	return append(l, math.MinInt, math.MinInt+1, math.MinInt32, -page)
}

// TestExamples tells the chapter's.
func TestExamples(t *testing.T) {
	m := pages(t, 1)
	if v, e := m.Load(65533, 0, 4); v != 0 || e != api.ErrFault {
		t.Errorf("%d, %d", v, e)
	}
	if v, e := m.Load(65532, 0, 4); v != 0 || e != api.OK {
		t.Errorf("%d, %d", v, e)
	}
}

// TestNew: which limits may be, and how many pages there are, and may be, then (P9.1).
func TestNew(t *testing.T) {
	numbers := []int{math.MinInt, math.MinInt32, -2, -1, 0, 1, 2, 3, 7, 15, 16, 17, 18, 65536, 65537, math.MaxInt32, 1 << 48, math.MaxInt - 1, math.MaxInt}
	made := 0
	for _, limit := range numbers {
		for _, least := range numbers {
			for _, most := range numbers {
				lim := api.Limits{Min: least, Max: most}
				want, e := newModel(lim, limit)
				m, got := New(lim, limit)
				if got != e || (m == nil) != (want == nil) {
					t.Errorf("New(%v, %d): %d, not %d", lim, limit, got, e)
					continue
				}
				if m == nil {
					continue
				}
				made++
				if m.Size() != want.pages {
					t.Errorf("New(%v, %d): %d pages", lim, limit, m.Size())
				}
				room := want.most - want.pages
				if m.Grow(room+1) != -1 || m.Grow(room) != want.pages || m.Size() != want.most || m.Grow(1) != -1 {
					t.Errorf("New(%v, %d): may have %d pages, not %d", lim, limit, m.Size(), want.most)
				}
			}
		}
	}
	if made < 100 {
		t.Errorf("%d", made)
	}
}

// TestFirstError: ErrForm ahead of ErrNospc (R4).
func TestFirstError(t *testing.T) {
	for _, c := range []struct {
		lim   api.Limits
		limit int
	}{{api.Limits{Min: 17, Max: -1}, -1}, {api.Limits{Min: 18, Max: -1}, 17}, {api.Limits{Min: 4, Max: 3}, 2}, {api.Limits{Min: 4, Max: -2}, 2}} {
		if m, e := New(c.lim, c.limit); m != nil || e != api.ErrForm {
			t.Errorf("%v: %d", c, e)
		}
	}
	m := pages(t, 1)
	for _, c := range []struct{ at, offset, n int }{{page, 0, 3}, {page, 0, -1}, {1 << 32, page, 1}, {page, 1 << 32, 1}, {-1, page, 1}, {page, -1, 1}} {
		if v, e := m.Load(c.at, c.offset, c.n); v != 0 || e != api.ErrForm {
			t.Errorf("%v: %d, %d", c, v, e)
		}
		if e := m.Store(c.at, c.offset, c.n, 1); e != api.ErrForm {
			t.Errorf("%v: %d", c, e)
		}
	}
}

// TestNoughts: a new memory is of noughts, and so is what it grows by; what was there stays (P9.1).
func TestNoughts(t *testing.T) {
	m := make1(t, api.Limits{Min: 2, Max: -1}, 16)
	was := []byte{}
	for _, n := range []int{0, 1, 0, 3, 7} {
		had := m.Size()
		if m.Grow(n) != had || m.Size() != had+n {
			t.Fatalf("Grow(%d): %d pages", n, m.Size())
		}
		b := all(t, m)
		if !bytes.Equal(b[:len(was)], was) || !bytes.Equal(b[len(was):], make([]byte, len(b)-len(was))) {
			t.Fatalf("behind Grow(%d)", n)
		}
		was = pattern(len(b))
		m.Write(0, was)
	}
	for _, n := range []int{-1, 4, 17, math.MinInt, math.MaxInt} {
		if m.Grow(n) != -1 || m.Size() != 13 || !bytes.Equal(all(t, m), was) {
			t.Errorf("Grow(%d): %d pages", n, m.Size())
		}
	}
}

// TestGrow: any number of pages asked for, at any size (P9.1).
func TestGrow(t *testing.T) {
	for _, n := range edges() {
		for size := range 5 {
			lim := api.Limits{Min: size, Max: 6}
			want, _ := newModel(lim, 16)
			m := make1(t, lim, 16)
			if was, got := want.grow(n), m.Grow(n); got != was || m.Size() != want.pages {
				t.Errorf("Grow(%d) of %d pages: %d, %d pages", n, size, got, m.Size())
			}
		}
	}
}

// TestReach: where a number may be, by all edges of at, offset and n; with an error nothing changes (P9.2).
func TestReach(t *testing.T) {
	places := edges()
	for _, size := range []int{0, 1, 2} {
		lim := api.Limits{Min: size, Max: -1}
		want, _ := newModel(lim, 2)
		m := make1(t, lim, 2)
		count := map[api.Errno]int{}
		for _, n := range []int{math.MinInt, -8, -1, 0, 1, 2, 3, 4, 5, 6, 7, 8, 9, 16, math.MaxInt} {
			for _, at := range places {
				for _, offset := range places {
					e := want.asked(at, offset, n)
					if v, got := m.Load(at, offset, n); got != e || v != 0 {
						t.Fatalf("%d pages: Load(%d, %d, %d): %d, %d, not %d", size, at, offset, n, v, got, e)
					}
					stored := ^uint64(0)
					if e == api.OK {
						stored = 0
					}
					if got := m.Store(at, offset, n, stored); got != e {
						t.Fatalf("%d pages: Store(%d, %d, %d): %d, not %d", size, at, offset, n, got, e)
					}
					count[e]++
				}
			}
		}
		if count[api.ErrForm] == 0 || count[api.ErrFault] == 0 || (count[api.OK] > 0) != (size > 0) {
			t.Errorf("%v", count)
		}
		if !bytes.Equal(all(t, m), make([]byte, size*page)) {
			t.Errorf("%d pages: something has changed", size)
		}
	}
}

// TestOrder: the lowest byte is the first one (P9.2).
func TestOrder(t *testing.T) {
	m := pages(t, 1)
	m.Write(7, []byte{0x81, 0x92, 0xa3, 0xb4, 0xc5, 0xd6, 0xe7, 0xf8})
	for n, want := range map[int]uint64{1: 0x81, 2: 0x9281, 4: 0xb4a39281, 8: 0xf8e7d6c5b4a39281} {
		for offset := range 8 {
			if v, e := m.Load(7-offset, offset, n); v != want || e != api.OK {
				t.Errorf("%d bytes: %x, %d", n, v, e)
			}
		}
	}
}

// TestStored: what is stored is loaded, by all widths, at all places of a word, and bytes beside it stay (P9.4).
func TestStored(t *testing.T) {
	for _, v := range []uint64{0, 1, 0xff, 0x100, 0x8000, 0xffff, 0x1122334455667788, 0x8000000000000000, 0xfedcba9876543210, math.MaxUint64, math.MaxUint32, 1 << 32} {
		for _, n := range []int{1, 2, 4, 8} {
			for _, at := range []int{0, 1, 2, 3, 4, 5, 6, 7, 8, 13, page - 9, page - 3, page - 1, page, 2*page - n} {
				m := filled(t, 2)
				was := all(t, m)
				if e := m.Store(0, at, n, v); e != api.OK {
					t.Fatalf("Store at %d: %d", at, e)
				}
				want := v
				if n < 8 {
					want = v & (1<<(8*n) - 1)
				}
				if got, e := m.Load(at, 0, n); got != want || e != api.OK {
					t.Errorf("%d bytes of %x at %d: %x, %d", n, v, at, got, e)
				}
				now := all(t, m)
				if !bytes.Equal(now[:at], was[:at]) || !bytes.Equal(now[at+n:], was[at+n:]) {
					t.Errorf("%d bytes at %d: others have changed", n, at)
				}
				for k := range n {
					if now[at+k] != byte(v>>(8*k)) {
						t.Errorf("%d bytes of %x at %d: byte %d is %x", n, v, at, k, now[at+k])
					}
				}
			}
		}
	}
}

// TestReadWrite: which bytes are there, none at all too; with an error nothing changes (P9.3).
func TestReadWrite(t *testing.T) {
	places := edges()
	for _, size := range []int{0, 1, 2} {
		want, _ := newModel(api.Limits{Min: size, Max: -1}, 2)
		m := filled(t, size)
		was := all(t, m)
		for _, at := range places {
			for _, n := range places {
				there := want.there(at, 0, n)
				b, e := m.Read(at, n)
				if there && (e != api.OK || !bytes.Equal(b, was[at:at+n])) || !there && (e != api.ErrFault || len(b) != 0) {
					t.Fatalf("%d pages: Read(%d, %d): %d bytes, %d", size, at, n, len(b), e)
				}
				if n < 0 || n > 3*page {
					continue
				}
				put := bytes.Repeat([]byte{0xfe}, n)
				if there {
					copy(put, was[at:])
				}
				if e := m.Write(at, put); (e == api.OK) != there || e != api.OK && e != api.ErrFault {
					t.Fatalf("%d pages: Write(%d, %d bytes): %d", size, at, n, e)
				}
			}
		}
		if !bytes.Equal(all(t, m), was) {
			t.Errorf("%d pages: something has changed", size)
		}
	}
}

// TestNoBytes: none at all are there up to the end, not from one behind it; a nil list is an empty one.
func TestNoBytes(t *testing.T) {
	for size := range 3 {
		m := pages(t, size)
		for _, c := range []struct {
			at int
			e  api.Errno
		}{{-1, api.ErrFault}, {0, api.OK}, {size * page, api.OK}, {size*page + 1, api.ErrFault}, {math.MinInt, api.ErrFault}, {math.MaxInt, api.ErrFault}} {
			b, e := m.Read(c.at, 0)
			if len(b) != 0 || e != c.e || m.Write(c.at, nil) != c.e || m.Write(c.at, []byte{}) != c.e {
				t.Errorf("%d pages, at %d: %d", size, c.at, e)
			}
		}
	}
}

// TestGrown: what grows is there at once, and not ahead of it.
func TestGrown(t *testing.T) {
	m := make1(t, api.Limits{Min: 1, Max: -1}, 16)
	for size := 1; size < 16; size++ {
		end := size * page
		if _, e := m.Load(end-4, 0, 8); e != api.ErrFault {
			t.Errorf("%d pages: %d", size, e)
		}
		if m.Write(end-1, []byte{1, 2}) != api.ErrFault || m.Grow(1) != size || m.Store(end-4, 0, 8, math.MaxUint64) != api.OK || m.Write(end+4, []byte{7}) != api.OK {
			t.Errorf("%d pages", size)
		}
		if v, e := m.Load(0, end, 8); v != 0x7ffffffff || e != api.OK {
			t.Errorf("%d pages: %x, %d", size, v, e)
		}
	}
}

// TestShared: what is told and what is handed in is nobody else's, spare room too (R2).
func TestShared(t *testing.T) {
	m := filled(t, 1)
	was := all(t, m)
	a, _ := m.Read(100, 50)
	b, _ := m.Read(100, 50)
	for k := range a[:cap(a)] {
		a[:cap(a)][k] = 0xff
	}
	if !bytes.Equal(b, was[100:150]) || !bytes.Equal(all(t, m), was) {
		t.Error("what is told is shared")
	}
	none, _ := m.Read(page-10, 0)
	_ = append(none, 0xff, 0xff)
	if !bytes.Equal(all(t, m), was) {
		t.Error("what is told is shared: no bytes")
	}
	put := append(make([]byte, 0, 64), 0xaa, 0xbb, 0xcc)
	m.Write(200, put)
	copy(put[:64], bytes.Repeat([]byte{0x11}, 64))
	copy(was[200:], []byte{0xaa, 0xbb, 0xcc})
	if !bytes.Equal(all(t, m), was) {
		t.Error("what is handed in is kept")
	}
	m.Write(200, put)
	m.Store(200, 0, 8, 0)
	if !bytes.Equal(put[:64], bytes.Repeat([]byte{0x11}, 64)) {
		t.Error("what is handed in is changed")
	}
}

// TestSharedWhole: of the whole of it, too, and of two memories.
func TestSharedWhole(t *testing.T) {
	m, other := make1(t, api.Limits{Min: 1, Max: 4}, 16), make1(t, api.Limits{Min: 1, Max: 4}, 16)
	whole := pattern(page)
	m.Write(0, whole)
	clear(whole)
	told := all(t, m)
	m.Grow(1)
	m.Store(0, 0, 8, 0)
	if !bytes.Equal(told, pattern(page)) || !bytes.Equal(all(t, other), make([]byte, page)) || other.Size() != 1 {
		t.Error("shared")
	}
	clear(told)
	if v, _ := m.Load(8, 0, 1); v != 9 {
		t.Errorf("%d", v)
	}
}

// place is one that is often near an edge.
func place(r *rand.Rand, size int) int {
	switch r.Intn(8) {
	case 0:
		return size*page - r.Intn(20) + 8
	case 1:
		return r.Intn(size*page + 1)
	case 2:
		return page*r.Intn(size+1) - r.Intn(12) + 4
	case 3:
		l := edges()
		return l[r.Intn(len(l))]
	}
	return r.Intn(40)
}

// step does one call on both, and tells whether they told the same.
func step(r *rand.Rand, m *Memory, want *model) bool {
	at, offset, n := place(r, want.pages), place(r, want.pages)*r.Intn(2), []int{1, 2, 4, 8, r.Intn(10)}[r.Intn(5)]
	switch r.Intn(16) {
	case 0:
		n = []int{0, 1, r.Intn(20) - 2}[r.Intn(3)]
		return m.Grow(n) == want.grow(n)
	case 1, 2, 3, 4:
		v, e := m.Load(at, offset, n)
		v2, e2 := want.load(at, offset, n)
		return v == v2 && e == e2
	case 5, 6, 7, 8:
		v := r.Uint64() >> r.Intn(64)
		return m.Store(at, offset, n, v) == want.store(at, offset, n, v)
	case 9, 10, 11:
		n = r.Intn(40) - 2
		b, e := m.Read(at, n)
		b2, e2 := want.read(at, n)
		return bytes.Equal(b, b2) && e == e2
	case 12, 13, 14:
		b := pattern(300)[r.Intn(200):][:r.Intn(40)]
		return m.Write(at, b) == want.write(at, b)
	}
	return m.Size() == want.pages
}

// TestRandom holds long rows of calls against the model, and all bytes at their end.
func TestRandom(t *testing.T) {
	r := rand.New(rand.NewSource(9))
	for round := range 150 {
		lim := api.Limits{Min: r.Intn(3), Max: -1}
		if r.Intn(2) == 0 {
			lim.Max = lim.Min + r.Intn(6)
		}
		limit := lim.Min + r.Intn(17-lim.Min)
		m := make1(t, lim, limit)
		want, _ := newModel(lim, limit)
		for k := range 400 {
			if !step(r, m, want) {
				t.Fatalf("round %d, call %d", round, k)
			}
		}
		b := all(t, m)
		if len(b) != want.pages*page {
			t.Fatalf("round %d: %d bytes", round, len(b))
		}
		for at, x := range b {
			if x != 0 && want.bytes[at] != x {
				t.Fatalf("round %d: %x at %d", round, x, at)
			}
		}
		for at, x := range want.bytes {
			if b[at] != x {
				t.Fatalf("round %d: %x at %d, not %x", round, b[at], at, x)
			}
		}
	}
}
