package utf

import (
	"bytes"
	"math"
	"slices"
	"testing"
	"unicode/utf8"

	"gangway/api"
)

// isGood is P2.1's word on single points.
func isGood(point int32) bool {
	return point >= 0 && point <= 0x10ffff && !(point >= 0xd800 && point <= 0xdfff)
}

// agrees holds Check and Points against the library, which reads by the same rule.
func agrees(t *testing.T, b []byte) {
	t.Helper()
	was := bytes.Clone(b)
	e := Check(b)
	l, e2 := Points(b)
	if !bytes.Equal(b, was) {
		t.Fatalf("% x: changed to % x", was, b)
	}
	if !utf8.Valid(b) {
		if e != api.ErrForm || e2 != api.ErrForm || len(l) != 0 {
			t.Fatalf("% x: %d, %d, %x, want ErrForm", b, e, e2, l)
		}
		return
	}
	if e != api.OK || e2 != api.OK || !slices.Equal(l, []int32([]rune(string(b)))) {
		t.Fatalf("% x: %d, %d, %x", b, e, e2, l)
	}
}

// P2.1: the chapter's examples, and the least and greatest of each length.
func TestExamples(t *testing.T) {
	for _, c := range []struct {
		b []byte
		l []int32
		e api.Errno
	}{
		{[]byte{0xe2, 0x82, 0xac}, []int32{0x20ac}, api.OK},
		{[]byte{0xc0, 0x80}, nil, api.ErrForm},
		{[]byte{0xed, 0xa0, 0x80}, nil, api.ErrForm},
		{nil, nil, api.OK},
		{[]byte{}, nil, api.OK},
		{[]byte{0}, []int32{0}, api.OK},
		{[]byte{0x7f}, []int32{0x7f}, api.OK},
		{[]byte{0xc1, 0xbf}, nil, api.ErrForm},
		{[]byte{0xc2, 0x80}, []int32{0x80}, api.OK},
		{[]byte{0xdf, 0xbf}, []int32{0x7ff}, api.OK},
		{[]byte{0xe0, 0x80, 0x80}, nil, api.ErrForm},
		{[]byte{0xe0, 0x9f, 0xbf}, nil, api.ErrForm},
		{[]byte{0xe0, 0xa0, 0x80}, []int32{0x800}, api.OK},
		{[]byte{0xed, 0x9f, 0xbf}, []int32{0xd7ff}, api.OK},
		{[]byte{0xed, 0xbf, 0xbf}, nil, api.ErrForm},
		{[]byte{0xee, 0x80, 0x80}, []int32{0xe000}, api.OK},
		{[]byte{0xef, 0xbf, 0xbf}, []int32{0xffff}, api.OK},
		{[]byte{0xef, 0xbf, 0xbd}, []int32{0xfffd}, api.OK},
		{[]byte{0xf0, 0x80, 0x80, 0x80}, nil, api.ErrForm},
		{[]byte{0xf0, 0x8f, 0xbf, 0xbf}, nil, api.ErrForm},
		{[]byte{0xf0, 0x90, 0x80, 0x80}, []int32{0x10000}, api.OK},
		{[]byte{0xf4, 0x8f, 0xbf, 0xbf}, []int32{0x10ffff}, api.OK},
		{[]byte{0xf4, 0x90, 0x80, 0x80}, nil, api.ErrForm},
		{[]byte{0xf7, 0xbf, 0xbf, 0xbf}, nil, api.ErrForm},
		{[]byte{0xf8, 0x88, 0x80, 0x80, 0x80}, nil, api.ErrForm},
		{[]byte{0xfc, 0x84, 0x80, 0x80, 0x80, 0x80}, nil, api.ErrForm},
		{[]byte{0xfe}, nil, api.ErrForm},
		{[]byte{0xff}, nil, api.ErrForm},
		{[]byte{0x80}, nil, api.ErrForm},
		{[]byte{0xbf}, nil, api.ErrForm},
		{[]byte{0x41, 0x80}, nil, api.ErrForm},
		{[]byte{0xe2, 0x82}, nil, api.ErrForm},
		{[]byte{0x41, 0xe2, 0x82, 0xac, 0x42}, []int32{0x41, 0x20ac, 0x42}, api.OK},
	} {
		if e := Check(c.b); e != c.e {
			t.Errorf("Check % x: %d", c.b, e)
		}
		if l, e := Points(c.b); !slices.Equal(l, c.l) || e != c.e {
			t.Errorf("Points % x: %x, %d", c.b, l, e)
		}
		if b, e := Bytes(c.l); c.e == api.OK && (!bytes.Equal(b, c.b) || e != api.OK) {
			t.Errorf("Bytes %x: % x, %d", c.l, b, e)
		}
	}
}

// P2.1: all texts of up to two bytes, and all that begin with those and go on by bytes at the edges.
func TestAllBeginnings(t *testing.T) {
	edges := []byte{0, 0x41, 0x7f, 0x80, 0x8f, 0x90, 0x9f, 0xa0, 0xbf, 0xc0, 0xc2, 0xe0, 0xf0, 0xff}
	for a := range 256 {
		agrees(t, []byte{byte(a)})
		for b := range 256 {
			agrees(t, []byte{byte(a), byte(b)})
			for _, c := range edges {
				agrees(t, []byte{byte(a), byte(b), c})
				agrees(t, []byte{byte(a), byte(b), c, 0x80})
				agrees(t, []byte{byte(a), byte(b), 0x80, c})
				agrees(t, []byte{byte(a), byte(b), 0x80, 0x80, c})
				agrees(t, []byte{0xe2, 0x82, 0xac, byte(a), byte(b), c})
			}
		}
	}
}

// P2.1 and P2.2: every point, and those that are none.
func TestEveryPoint(t *testing.T) {
	var all []int32
	for point := int32(-2); point <= 0x110002; point++ {
		b, e := Bytes([]int32{point})
		if !isGood(point) {
			if len(b) != 0 || e != api.ErrForm {
				t.Fatalf("%x: % x, %d", point, b, e)
			}
			continue
		}
		if e != api.OK || string(b) != string(rune(point)) {
			t.Fatalf("%x: % x, %d", point, b, e)
		}
		all = append(all, point)
	}
	b, e := Bytes(all)
	if e != api.OK || string(b) != string([]rune(all)) || Check(b) != api.OK {
		t.Fatal("all points at once:", e)
	}
	if l, e := Points(b); e != api.OK || !slices.Equal(l, all) {
		t.Fatal("all points back:", e)
	}
}

// P2.1: one wrong point anywhere is enough.
func TestWrongPoints(t *testing.T) {
	for _, bad := range []int32{math.MinInt32, -1, 0xd800, 0xdbff, 0xdc00, 0xdfff, 0x110000, math.MaxInt32} {
		for i := range 4 {
			l := []int32{0x41, 0x20ac, 0x10000, 0}
			l[i] = bad
			if b, e := Bytes(l); len(b) != 0 || e != api.ErrForm {
				t.Errorf("%x: % x, %d", l, b, e)
			}
		}
	}
	for _, l := range [][]int32{nil, {}} {
		if b, e := Bytes(l); len(b) != 0 || e != api.OK {
			t.Errorf("no points: % x, %d", b, e)
		}
	}
}

// P2.2: of long texts, too; cut or changed in one byte they are held against the library.
func TestUndo(t *testing.T) {
	text := []byte("a\u00e9\u20ac\U0001f600z\u07ff\ud7ff\U0010ffff\x00\u0800")
	l, e := Points(text)
	if e != api.OK {
		t.Fatal(e)
	}
	if b, e := Bytes(l); e != api.OK || !bytes.Equal(b, text) {
		t.Fatalf("% x, %d", b, e)
	}
	for i := range text {
		agrees(t, text[:i])
		agrees(t, text[i:])
		for c := range 256 {
			b := bytes.Clone(text)
			b[i] = byte(c)
			agrees(t, b)
			if l, e := Points(b); e == api.OK {
				if again, _ := Bytes(l); !bytes.Equal(again, b) {
					t.Fatalf("% x: % x", b, again)
				}
			}
		}
	}
}

// R2: arguments stay, answers are nobody else's.
func TestMemory(t *testing.T) {
	b := []byte{0x41, 0xe2, 0x82, 0xac}
	l, _ := Points(b)
	m, _ := Points(b)
	l[0] = 7
	_ = append(l[:1], 8)
	if !slices.Equal(m, []int32{0x41, 0x20ac}) || !bytes.Equal(b, []byte{0x41, 0xe2, 0x82, 0xac}) {
		t.Errorf("%x, % x", m, b)
	}
	c, _ := Bytes(m)
	d, _ := Bytes(m)
	c[0] = 9
	_ = append(c[:1], 9)
	if !bytes.Equal(d, b) || !slices.Equal(m, []int32{0x41, 0x20ac}) {
		t.Errorf("% x, %x", d, m)
	}
}
