package disk

import (
	"bytes"
	"math"
	"math/rand"
	"slices"
	"testing"

	"gangway/api"
)

const size = 64

func sector(b byte) []byte {
	return bytes.Repeat([]byte{b}, size)
}

// image is one whose sectors are filled with the bytes of s.
func image(s string) []byte {
	var l []byte
	for _, b := range []byte(s) {
		l = append(l, sector(b)...)
	}
	return l
}

// firsts undoes it, and holds that each sector is of one byte.
func firsts(t *testing.T, im []byte) string {
	t.Helper()
	s := ""
	for k := 0; k < len(im); k += size {
		s += string(im[k])
	}
	if !bytes.Equal(image(s), im) {
		t.Fatalf("%x", im)
	}
	return s
}

func make1(t *testing.T, s string, at ...int) *Disk {
	t.Helper()
	d, e := New(image(s), troubles(at...))
	if e != api.OK || d == nil {
		t.Fatalf("New of %q, %v: %d", s, at, e)
	}
	return d
}

func troubles(at ...int) []api.Trouble {
	var l []api.Trouble
	for _, n := range at {
		l = append(l, api.Trouble{At: n})
	}
	return l
}

// pickings are all rows of n picks of 0 and 1.
func pickings(n int) [][]int {
	l := [][]int{nil}
	for range n {
		var longer [][]int
		for _, p := range l {
			longer = append(longer, append(slices.Clone(p), 0), append(slices.Clone(p), 1))
		}
		l = longer
	}
	return l
}

// TestExample tells the chapter's: two writes, picks 0, 1.
func TestExample(t *testing.T) {
	d := make1(t, "abc")
	d.Write(0, sector('A'))
	d.Write(2, sector('C'))
	if s := firsts(t, d.Crash([]int{0, 1})); s != "abC" {
		t.Error(s)
	}
}

// TestSizes: which images may be (P11.1).
func TestSizes(t *testing.T) {
	for _, n := range []int{0, 1, 63, 64, 65, 127, 128, 129, 192, 64*64 - 1, 64 * 64, 16383 * 64, 16384*64 - 64, 16384*64 - 1, 16384 * 64, 16384*64 + 1, 16384*64 + 63, 16385 * 64, 16386 * 64, 1 << 24, 1<<24 + 1} {
		d, e := New(make([]byte, n), nil)
		ok := n%64 == 0 && n/64 >= 1 && n/64 <= 16384
		if ok && (e != api.OK || d == nil || d.Count() != n/64 || d.Strokes() != 0) || !ok && (e != api.ErrForm || d != nil) {
			t.Errorf("%d bytes: %d", n, e)
		}
	}
	for _, b := range [][]byte{nil, {}} {
		if d, e := New(b, nil); d != nil || e != api.ErrForm {
			t.Errorf("%d", e)
		}
	}
}

// TestTroubles: which strokes a trouble may be at, wherever it stands (P11.1).
func TestTroubles(t *testing.T) {
	for _, at := range []int{math.MinInt, -1 << 32, -2, -1, 0, 1, 2, 1 << 31, 1 << 32, math.MaxInt} {
		for _, l := range [][]int{{at}, {at, 3}, {3, at}, {3, at, 3}, {at, at}, {1, 1, at}} {
			d, e := New(image("ab"), troubles(l...))
			if at >= 1 && (e != api.OK || d == nil) || at < 1 && (e != api.ErrForm || d != nil) {
				t.Errorf("%v: %d", l, e)
			}
		}
	}
	for _, l := range [][]api.Trouble{nil, {}} {
		d, e := New(image("ab"), l)
		if e != api.OK || d.Count() != 2 {
			t.Errorf("%d", e)
		}
	}
}

// TestBegin: a new disk has the image's bytes, all safe, at both ends of as many sectors as may be, too (P11.1).
func TestBegin(t *testing.T) {
	for _, n := range []int{1, 2, 3, 257, 16384} {
		im := make([]byte, n*size)
		for k := range im {
			im[k] = byte(k ^ k>>6 ^ k>>14)
		}
		d, e := New(im, nil)
		if e != api.OK || d.Count() != n {
			t.Fatalf("%d sectors: %d", n, e)
		}
		for _, picks := range [][]int{nil, {1, 1, 1}} {
			if !bytes.Equal(d.Crash(picks), im) {
				t.Errorf("%d sectors: a crash", n)
			}
		}
		for i := range n {
			if b, e := d.Read(i); e != api.OK || !bytes.Equal(b, im[i*size:(i+1)*size]) {
				t.Fatalf("%d sectors: Read(%d): %d", n, i, e)
			}
		}
	}
}

// TestForm: sectors that there are not, and bytes that are not a sector's, are no strokes, and nothing is done (P11.2).
func TestForm(t *testing.T) {
	for _, n := range []int{1, 3} {
		s := "abc"[:n]
		d := make1(t, s)
		for _, i := range []int{math.MinInt, -1 << 32, -64, -1, n - 1, n, n + 1, 64, 16383, 16384, 1 << 32, 1 << 58, math.MaxInt} {
			want := api.ErrForm
			if i >= 0 && i < n {
				want = api.OK
			}
			if b, e := d.Read(i); e != want || e != api.OK && len(b) != 0 {
				t.Errorf("%d sectors: Read(%d): %d", n, i, e)
			}
			for _, k := range []int{0, 1, 32, 63, 65, 128, 192, 4096} {
				if e := d.Write(i, make([]byte, k)); e != api.ErrForm {
					t.Errorf("%d sectors: Write(%d, %d bytes): %d", n, i, k, e)
				}
			}
			if e := d.Write(i, nil); e != api.ErrForm {
				t.Errorf("%d sectors: Write(%d, nil): %d", n, i, e)
			}
			if e := d.Write(i, sector(s[n-1])); e != want {
				t.Errorf("%d sectors: Write(%d): %d", n, i, e)
			}
		}
		if got := firsts(t, d.Crash(ones(n))); got != s || d.Strokes() != 1 {
			t.Errorf("%d sectors: %s, %d strokes", n, got, d.Strokes())
		}
	}
}

func ones(n int) []int {
	return slices.Repeat([]int{1}, n)
}

// TestStrokes: Write and Flush are strokes, with the power off, too; what is told ErrForm and all other calls are none (P11.2).
func TestStrokes(t *testing.T) {
	d := make1(t, "ab", 4)
	for k, c := range []struct {
		do      func() api.Errno
		e       api.Errno
		strokes int
	}{
		{func() api.Errno { return d.Write(0, sector('x')) }, api.OK, 1},
		{func() api.Errno { return d.Write(2, sector('x')) }, api.ErrForm, 1},
		{func() api.Errno { return d.Write(0, sector('x')[1:]) }, api.ErrForm, 1},
		{d.Flush, api.OK, 2},
		{func() api.Errno { _, e := d.Read(0); return e }, api.OK, 2},
		{func() api.Errno { _, e := d.Read(2); return e }, api.ErrForm, 2},
		{func() api.Errno { d.Crash(ones(2)); d.Count(); d.Strokes(); return api.OK }, api.OK, 2},
		{d.Flush, api.OK, 3},
		{func() api.Errno { return d.Write(-1, nil) }, api.ErrForm, 3},
		{func() api.Errno { _, e := d.Read(1); return e }, api.OK, 3},
		{func() api.Errno { return d.Write(1, sector('y')) }, api.ErrPower, 4},
		{func() api.Errno { return d.Write(1, sector('z')) }, api.ErrPower, 5},
		{d.Flush, api.ErrPower, 6},
		{func() api.Errno { return d.Write(2, sector('x')) }, api.ErrForm, 6},
		{func() api.Errno { return d.Write(1, nil) }, api.ErrForm, 6},
		{func() api.Errno { _, e := d.Read(0); return e }, api.ErrPower, 6},
		{func() api.Errno { _, e := d.Read(2); return e }, api.ErrForm, 6},
		{d.Flush, api.ErrPower, 7},
	} {
		if e := c.do(); e != c.e || d.Strokes() != c.strokes {
			t.Errorf("%d: %d, %d strokes", k, e, d.Strokes())
		}
	}
	if d.Count() != 2 || firsts(t, d.Crash(nil)) != "xb" || firsts(t, d.Crash(ones(2))) != "xy" {
		t.Error(firsts(t, d.Crash(ones(2))))
	}
}

// TestTrouble: at its stroke a Write is done, a Flush is not; behind it none is, whatever troubles follow (P11.2).
func TestTrouble(t *testing.T) {
	for _, at := range [][]int{{2}, {2, 3}, {3, 2}, {2, 2}, {9, 4, 2, 3, 5}, {math.MaxInt, 2}} {
		d := make1(t, "ab", at...)
		if d.Write(0, sector('x')) != api.OK || d.Write(1, sector('y')) != api.ErrPower || d.Write(0, sector('z')) != api.ErrPower || d.Write(1, sector('z')) != api.ErrPower || d.Flush() != api.ErrPower {
			t.Errorf("%v: an error", at)
		}
		if safe, seen := firsts(t, d.Crash(nil)), firsts(t, d.Crash(ones(2))); safe != "ab" || seen != "xy" {
			t.Errorf("%v: %s, %s", at, safe, seen)
		}
		d = make1(t, "ab", at...)
		if d.Write(0, sector('x')) != api.OK || d.Flush() != api.ErrPower || d.Flush() != api.ErrPower || d.Write(1, sector('y')) != api.ErrPower {
			t.Errorf("%v: an error", at)
		}
		if safe, seen := firsts(t, d.Crash(nil)), firsts(t, d.Crash(ones(2))); safe != "ab" || seen != "xb" {
			t.Errorf("%v: %s, %s", at, safe, seen)
		}
	}
	d := make1(t, "ab", 1)
	if b, e := d.Read(0); e != api.OK || !bytes.Equal(b, sector('a')) {
		t.Errorf("ahead of it: %d", e)
	}
	if d.Flush() != api.ErrPower || d.Strokes() != 1 {
		t.Error("the first stroke")
	}
	if b, e := d.Read(0); e != api.ErrPower || len(b) != 0 {
		t.Errorf("behind it: %d", e)
	}
}

// TestPicks: odd and even ones, below 0 too, too few and too many; a sector whose bytes are alike takes none (P11.3).
func TestPicks(t *testing.T) {
	d := make1(t, "abcde")
	d.Write(4, sector('E'))
	d.Write(0, sector('x'))
	d.Write(2, sector('C'))
	d.Write(1, sector('b'))
	d.Write(0, sector('A'))
	d.Write(3, sector('x'))
	d.Write(3, sector('d'))
	for _, c := range []struct {
		picks []int
		want  string
	}{
		{nil, "abcde"}, {[]int{}, "abcde"}, {[]int{0}, "abcde"}, {[]int{1}, "Abcde"}, {[]int{0, 1}, "abCde"}, {[]int{1, 1}, "AbCde"},
		{[]int{0, 0, 1}, "abcdE"}, {[]int{1, 0, 1}, "AbcdE"}, {[]int{1, 1, 1}, "AbCdE"}, {[]int{0, 0, 0, 1, 1, 1}, "abcde"}, {[]int{1, 1, 1, 0, 0}, "AbCdE"},
		{[]int{-1, -2, -3}, "AbcdE"}, {[]int{2, 3, 4}, "abCde"}, {[]int{math.MaxInt, math.MinInt, math.MinInt + 1}, "AbcdE"}, {[]int{math.MaxInt - 1, 1 << 32, 1<<32 + 1}, "abcdE"},
	} {
		was := slices.Clone(c.picks)
		if s := firsts(t, d.Crash(c.picks)); s != c.want || !slices.Equal(was, c.picks) {
			t.Errorf("%v: %s, not %s", c.picks, s, c.want)
		}
	}
	d.Flush()
	if s := firsts(t, d.Crash(nil)); s != "AbCdE" {
		t.Error(s)
	}
	d.Write(1, sector('B'))
	if s := firsts(t, d.Crash([]int{1, 0, 0})); s != "ABCdE" {
		t.Error(s)
	}
}

// TestUnlike: one bit is enough, wherever it stands in the sector (P11.3).
func TestUnlike(t *testing.T) {
	for bit := range size * 8 {
		d := make1(t, "aaa")
		b := sector('a')
		b[bit/8] ^= 1 << (bit % 8)
		d.Write(1, b)
		if im := d.Crash([]int{1}); !bytes.Equal(im[size:2*size], b) || !bytes.Equal(im[:size], sector('a')) || !bytes.Equal(im[2*size:], sector('a')) {
			t.Errorf("bit %d", bit)
		}
		if !bytes.Equal(d.Crash([]int{0, 1}), image("aaa")) {
			t.Errorf("bit %d: safe", bit)
		}
	}
}

// TestCrashed: a crash changes nothing, and a disk of its image has it safe.
func TestCrashed(t *testing.T) {
	d := make1(t, "abc")
	d.Write(0, sector('x'))
	d.Write(1, sector('y'))
	im := d.Crash([]int{1})
	next, e := New(im, nil)
	if e != api.OK || !bytes.Equal(next.Crash(ones(3)), image("xbc")) || !bytes.Equal(next.Crash(nil), image("xbc")) || next.Strokes() != 0 {
		t.Errorf("%d", e)
	}
	if b, e := d.Read(1); e != api.OK || !bytes.Equal(b, sector('y')) || d.Strokes() != 2 || firsts(t, d.Crash(nil)) != "abc" || firsts(t, d.Crash(ones(2))) != "xyc" {
		t.Errorf("%d", e)
	}
	d.Flush()
	if firsts(t, d.Crash(nil)) != "xyc" {
		t.Error(firsts(t, d.Crash(nil)))
	}
}

// spoil writes into all of b, into its spare room too.
func spoil(b []byte) {
	b = b[:cap(b)]
	for k := range b {
		b[k] ^= 0xff
	}
}

// TestShared: what is handed in and what is told is nobody else's, spare room too (R2).
func TestShared(t *testing.T) {
	im, ts := append(make([]byte, 0, 1024), image("abc")...), troubles(9, 8)
	d, _ := New(im, ts)
	other, _ := New(im, ts)
	if !bytes.Equal(im, image("abc")) || ts[0].At != 9 || ts[1].At != 8 {
		t.Error("what New is handed is changed")
	}
	spoil(im)
	ts[0].At, ts[1].At = 1, 1
	put := append(make([]byte, 0, 256), sector('y')...)
	if d.Write(1, put) != api.OK || !bytes.Equal(put, sector('y')) {
		t.Error("what Write is handed is changed")
	}
	spoil(put)
	a, _ := d.Read(1)
	b, _ := d.Read(1)
	spoil(a)
	c, _ := d.Read(0)
	spoil(c)
	if !bytes.Equal(b, sector('y')) {
		t.Error("what Read told is shared")
	}
	x, y := d.Crash(ones(1)), d.Crash(ones(1))
	spoil(x)
	spoil(d.Crash(nil))
	if firsts(t, y) != "ayc" || firsts(t, d.Crash(nil)) != "abc" || firsts(t, d.Crash(ones(1))) != "ayc" {
		t.Error("what Crash told is shared")
	}
	d.Flush()
	d.Write(1, sector('z'))
	d.Write(2, sector('z'))
	if firsts(t, y) != "ayc" || !bytes.Equal(b, sector('y')) || firsts(t, d.Crash(nil)) != "ayc" {
		t.Error("later strokes are seen in what was told")
	}
	if other.Strokes() != 0 || firsts(t, other.Crash(ones(3))) != "abc" {
		t.Error("two disks share something")
	}
}

// same holds all that may be asked of both, with all rows of picks for the sectors that are not safe.
func same(t *testing.T, d *Disk, m *model) {
	t.Helper()
	if d.Count() != len(m.image) || d.Strokes() != len(m.strokes) {
		t.Fatalf("%v: %d sectors, %d strokes", m, d.Count(), d.Strokes())
	}
	for i := -1; i <= len(m.image); i++ {
		b, e := d.Read(i)
		b2, e2 := m.read(i)
		if e != e2 || !bytes.Equal(b, b2) {
			t.Fatalf("%v: Read(%d): %d", m, i, e)
		}
	}
	n := min(len(m.unsafe()), 4)
	for few := range n + 2 {
		for _, picks := range pickings(few) {
			if !bytes.Equal(d.Crash(picks), m.crash(picks)) {
				t.Fatalf("%v: Crash(%v)", m, picks)
			}
		}
	}
}

// TestAllRows goes through all rows of up to five strokes of a few kinds, with a trouble at each, or at two.
func TestAllRows(t *testing.T) {
	kinds := []stroke{{-1, ""}, {0, "x"}, {0, "a"}, {1, "y"}, {1, "z"}}
	for _, at := range [][]int{nil, {1}, {2}, {3}, {4}, {5}, {6}, {4, 2}, {3, 4}} {
		for n := range 3125 {
			d := make1(t, "ab", at...)
			m, _ := newModel(image("ab"), troubles(at...))
			for range 5 {
				do(t, d, m, kinds[n%5])
				n /= 5
			}
			same(t, d, m)
		}
	}
}

// do does a stroke on both.
func do(t *testing.T, d *Disk, m *model, s stroke) {
	t.Helper()
	if s.i == -1 {
		if e, want := d.Flush(), m.flush(); e != want {
			t.Fatalf("%v: Flush: %d, not %d", m, e, want)
		}
		return
	}
	b := image(s.b)
	if e, want := d.Write(s.i, b), m.write(s.i, b); e != want {
		t.Fatalf("%v: Write(%d): %d, not %d", m, s.i, e, want)
	}
}

// TestRandom holds long rows of calls on greater disks against the model.
func TestRandom(t *testing.T) {
	r := rand.New(rand.NewSource(11))
	for range 300 {
		im := make([]byte, (1+r.Intn(12))*size)
		r.Read(im)
		var at []int
		for range r.Intn(3) {
			at = append(at, 1+r.Intn(60))
		}
		d, _ := New(im, troubles(at...))
		m, _ := newModel(im, troubles(at...))
		for range 40 {
			i, b := r.Intn(len(m.image)+2)-1, make([]byte, size)
			r.Read(b)
			switch r.Intn(6) {
			case 0:
				i = -1
			case 1:
				copy(b, m.safe(max(i, 0)%len(m.image)))
			case 2:
				b = b[:size-r.Intn(2)*r.Intn(size)]
			}
			if i == -1 && r.Intn(3) > 0 {
				do(t, d, m, stroke{i: -1})
			} else if e, want := d.Write(i, b), m.write(i, b); e != want {
				t.Fatalf("Write(%d, %d bytes): %d, not %d", i, len(b), e, want)
			}
			picks := make([]int, r.Intn(14))
			for k := range picks {
				picks[k] = r.Int() - r.Int()
			}
			if !bytes.Equal(d.Crash(picks), m.crash(picks)) {
				t.Fatalf("%v: Crash(%v)", m.strokes, picks)
			}
		}
		same(t, d, m)
	}
}

// TestFlushed: what was flushed, and not written since, is in every crash, with the power off and after two crashes too (P11.4).
func TestFlushed(t *testing.T) {
	for off, want := range map[int]string{5: "A?Cdef", 6: "A?C?ef", 7: "A?C?ef", 8: "?1C3ef"} {
		d := make1(t, "abcdef", off)
		for i, b := range []byte("ABC") {
			d.Write(i, sector(b))
		}
		if d.Flush() != api.OK {
			t.Fatal("Flush")
		}
		d.Write(1, sector('1'))
		d.Write(3, sector('3'))
		d.Flush()
		d.Write(0, sector('0'))
		for _, picks := range pickings(6) {
			s := firsts(t, d.Crash(picks))
			for i := range want {
				if want[i] != '?' && want[i] != s[i] {
					t.Errorf("off at %d: %s", off, s)
				}
			}
			next := make1(t, s, 1)
			next.Write(4, sector('x'))
			if s2 := firsts(t, next.Crash(picks)); s2[:4] != s[:4] || s2[5:] != s[5:] {
				t.Errorf("once more: %s, %s", s, s2)
			}
		}
	}
}
