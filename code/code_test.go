package code

import (
	"bytes"
	"math"
	"math/rand"
	"reflect"
	"slices"
	"strings"
	"testing"

	"gangway/api"
	"gangway/leb"
)

type in = api.Instr

// forms is the chapter's list: behind each byte a letter for what follows it.
// t: Type, l: Labels, i: Index, a: Align, o: Offset, 0: a byte 0, s: Val of 32 bits, v: of 64, b: Body, e: an Else or none, x: 0x0b.
func forms() map[int]string {
	m := map[int]string{0x02: "tbx", 0x03: "tbx", 0x04: "tbex", 0x0e: "li", 0x11: "i0", 0x41: "s", 0x42: "v"}
	add := func(form string, ops ...int) {
		for _, op := range ops {
			m[op] = form
		}
	}
	add("", 0x00, 0x01, 0x0f, 0x1a, 0x1b, 0xa7, 0xac, 0xad)
	add("i", 0x0c, 0x0d, 0x10, 0x20, 0x21, 0x22, 0x23, 0x24)
	add("ao", 0x28, 0x29, 0x2c, 0x2d, 0x2e, 0x2f, 0x30, 0x31, 0x32, 0x33, 0x34, 0x35, 0x36, 0x37, 0x3a, 0x3b, 0x3c, 0x3d, 0x3e)
	add("0", 0x3f, 0x40)
	for op := 0x45; op <= 0x5a; op++ {
		add("", op)
	}
	for op := 0x67; op <= 0x8a; op++ {
		add("", op)
	}
	return m
}

// model reads b by the chapter's list; what is wrong panics.
type model struct {
	b     []byte
	forms map[int]string
}

func (m *model) byte() byte {
	x := m.b[0]
	m.b = m.b[1:]
	return x
}

func (m *model) number() int {
	v, n, e := leb.Uint(m.b, 32)
	if e != api.OK {
		panic(e)
	}
	m.b = m.b[n:]
	return int(v)
}

func (m *model) signed(bits int) int64 {
	v, n, e := leb.Sint(m.b, bits)
	if e != api.OK {
		panic(e)
	}
	m.b = m.b[n:]
	return v
}

func (m *model) want(x byte) {
	if m.byte() != x {
		panic("another byte")
	}
}

func (m *model) list(deep int) (l []in) {
	if deep > 40 {
		panic("too deep")
	}
	for m.b[0] != 0x05 && m.b[0] != 0x0b {
		l = append(l, m.instr(deep))
	}
	return l
}

func (m *model) instr(deep int) (i in) {
	i.Op = int(m.byte())
	form, ok := m.forms[i.Op]
	if !ok {
		panic("no instruction")
	}
	for _, c := range form {
		switch c {
		case 't':
			i.Type = int(m.byte())
			if i.Type != 0x40 && i.Type != 0x7f && i.Type != 0x7e {
				panic("no type")
			}
		case 'l':
			for n := m.number(); len(i.Labels) < n; {
				i.Labels = append(i.Labels, m.number())
			}
		case 'i':
			i.Index = m.number()
		case 'a':
			i.Align = m.number()
		case 'o':
			i.Offset = m.number()
		case '0':
			m.want(0)
		case 's':
			i.Val = m.signed(32)
		case 'v':
			i.Val = m.signed(64)
		case 'b':
			i.Body = m.list(deep + 1)
		case 'e':
			if m.b[0] == 0x05 {
				m.byte()
				i.Else = m.list(deep + 1)
			}
		case 'x':
			m.want(0x0b)
		}
	}
	return i
}

// wanted is P5.1 by the model.
func wanted(b []byte, forms map[int]string) (l []in, n int, e api.Errno) {
	defer func() {
		if recover() != nil {
			l, n, e = nil, 0, api.ErrForm
		}
	}()
	m := &model{b, forms}
	l = m.list(0)
	m.want(0x0b)
	return l, len(b) - len(m.b), api.OK
}

// same tells whether two lists are one, a nil list and an empty one too.
func same(a, b []in) bool {
	return slices.EqualFunc(a, b, func(x, y in) bool {
		if !same(x.Body, y.Body) || !same(x.Else, y.Else) || !slices.Equal(x.Labels, y.Labels) {
			return false
		}
		for _, i := range []*in{&x, &y} {
			i.Body, i.Else, i.Labels = nil, nil, nil
		}
		return reflect.DeepEqual(x, y)
	})
}

// hold holds Decode against the model, and tells whether b begin with an expression.
func hold(t *testing.T, b []byte, forms map[int]string) bool {
	t.Helper()
	l, n, e := Decode(b)
	wantL, wantN, wantE := wanted(b, forms)
	if !same(l, wantL) || n != wantN || e != wantE || e != api.OK && l != nil {
		t.Fatalf("%x: %v, %d, %d, not %v, %d, %d", b, l, n, e, wantL, wantN, wantE)
	}
	return e == api.OK
}

// holdWrong: l are no instructions, alone and wherever they may stand.
func holdWrong(t *testing.T, l ...in) {
	t.Helper()
	for _, c := range [][]in{
		l,
		append([]in{{Op: 0x01}}, l...),
		append(slices.Clone(l), in{Op: 0x01}),
		{{Op: 0x02, Type: api.None, Body: l}},
		{{Op: 0x03, Type: api.I64, Body: l}},
		{{Op: 0x04, Type: api.None, Body: l}},
		{{Op: 0x04, Type: api.None, Else: l}},
	} {
		b, e := Encode(c)
		if b != nil || e != api.ErrForm || Check(c) != api.ErrForm {
			t.Errorf("%v: Encode %x, %d, Check %d", c, b, e, Check(c))
		}
	}
}

// holdRight: l are instructions, their bytes are what is wanted, and read again they are l.
func holdRight(t *testing.T, want []byte, l ...in) {
	t.Helper()
	b, e := Encode(l)
	if !bytes.Equal(b, want) || e != api.OK || Check(l) != api.OK {
		t.Errorf("%v: Encode %x, %d, Check %d, not %x", l, b, e, Check(l), want)
	}
	back, n, e := Decode(want)
	if !same(back, l) || n != len(want) || e != api.OK {
		t.Errorf("%x: Decode %v, %d, %d", want, back, n, e)
	}
}

// TestExample tells the chapter's example, and one of each kind.
func TestExample(t *testing.T) {
	holdRight(t, []byte{0x41, 0x01, 0x1a, 0x0b}, in{Op: 0x41, Val: 1}, in{Op: 0x1a})
	holdRight(t, []byte{0x0b})
	holdRight(t, []byte{0x00, 0x01, 0x0f, 0x1b, 0x0b}, in{Op: 0x00}, in{Op: 0x01}, in{Op: 0x0f}, in{Op: 0x1b})
	holdRight(t, []byte{0x02, 0x40, 0x01, 0x0b, 0x0b}, in{Op: 0x02, Type: api.None, Body: []in{{Op: 0x01}}})
	holdRight(t, []byte{0x03, 0x7f, 0x0b, 0x0b}, in{Op: 0x03, Type: api.I32})
	holdRight(t, []byte{0x04, 0x7e, 0x01, 0x05, 0x00, 0x0b, 0x0b}, in{Op: 0x04, Type: api.I64, Body: []in{{Op: 0x01}}, Else: []in{{Op: 0x00}}})
	holdRight(t, []byte{0x04, 0x40, 0x05, 0x00, 0x0b, 0x0b}, in{Op: 0x04, Type: api.None, Else: []in{{Op: 0x00}}})
	holdRight(t, []byte{0x0c, 0x80, 0x01, 0x24, 0x7f, 0x0b}, in{Op: 0x0c, Index: 128}, in{Op: 0x24, Index: 127})
	holdRight(t, []byte{0x0e, 0x02, 0x03, 0x81, 0x01, 0x04, 0x0b}, in{Op: 0x0e, Labels: []int{3, 129}, Index: 4})
	holdRight(t, []byte{0x0e, 0x00, 0x04, 0x0b}, in{Op: 0x0e, Index: 4})
	holdRight(t, []byte{0x11, 0x05, 0x00, 0x0b}, in{Op: 0x11, Index: 5})
	holdRight(t, []byte{0x3e, 0x02, 0x90, 0x01, 0x0b}, in{Op: 0x3e, Align: 2, Offset: 144})
	holdRight(t, []byte{0x3f, 0x00, 0x40, 0x00, 0x0b}, in{Op: 0x3f}, in{Op: 0x40})
	holdRight(t, []byte{0x41, 0x40, 0x42, 0xbf, 0x7f, 0x0b}, in{Op: 0x41, Val: -64}, in{Op: 0x42, Val: -65})
}

// TestEveryByte: just the chapter's bytes begin an instruction, whatever stands behind them (P5.1).
func TestEveryByte(t *testing.T) {
	f := forms()
	tails := [][]byte{{}, {0x0b}, {0x00, 0x0b}, {0x01, 0x0b}, {0x00, 0x00, 0x0b}, {0x00, 0x01, 0x0b}, {0x40, 0x0b, 0x0b}, {0x7e, 0x0b, 0x0b}, {0x40, 0x05, 0x0b, 0x0b}, {0x80, 0x00, 0x0b}, {0x01, 0x02, 0x03, 0x0b}}
	for op := range 256 {
		began := false
		for _, tail := range tails {
			began = hold(t, append([]byte{byte(op)}, tail...), f) || began
		}
		if _, ok := f[op]; ok != began && op != 0x0b {
			t.Errorf("%#x: begun %v", op, began)
		}
	}
}

// TestShortTexts holds all texts of two bytes, with some ends, against the model (P5.1).
func TestShortTexts(t *testing.T) {
	f := forms()
	for x := range 256 {
		for y := range 256 {
			for _, end := range [][]byte{{}, {0x0b}, {0x0b, 0x0b}, {0x00, 0x0b}, {0x05, 0x0b, 0x0b}} {
				hold(t, append([]byte{byte(x), byte(y)}, end...), f)
			}
		}
	}
}

// instrOf is the plainest instruction of that byte.
func instrOf(op int) in {
	if op >= 0x02 && op <= 0x04 {
		return in{Op: op, Type: api.None}
	}
	return in{Op: op}
}

// TestOps: just the chapter's bytes are instructions (P5.2).
func TestOps(t *testing.T) {
	f := forms()
	for op := -600; op <= 600; op++ {
		if _, ok := f[op]; !ok {
			holdWrong(t, instrOf(op))
			holdWrong(t, in{Op: op, Type: api.None})
			continue
		}
		if e := Check([]in{instrOf(op)}); e != api.OK {
			t.Errorf("%#x: %d", op, e)
		}
	}
	for _, op := range []int{math.MinInt, math.MinInt32, -1<<32 + 1, 1 << 8, 1 << 32, 1<<32 + 1, math.MaxInt} {
		holdWrong(t, in{Op: op})
	}
}

// TestFields: each instruction with what it has alone (P5.2).
func TestFields(t *testing.T) {
	for op, form := range forms() {
		for _, c := range []struct {
			letters string
			fill    func(i *in)
		}{
			{"t", func(i *in) { i.Type = api.None }},
			{"t", func(i *in) { i.Type = api.I32 }},
			{"t", func(i *in) { i.Type = api.I64 }},
			{"i", func(i *in) { i.Index = 1 }},
			{"a", func(i *in) { i.Align = 1 }},
			{"o", func(i *in) { i.Offset = 1 }},
			{"sv", func(i *in) { i.Val = 1 }},
			{"sv", func(i *in) { i.Val = -1 }},
			{"l", func(i *in) { i.Labels = []int{0} }},
			{"b", func(i *in) { i.Body = []in{{Op: 0x01}} }},
			{"e", func(i *in) { i.Else = []in{{Op: 0x01}} }},
		} {
			i := instrOf(op)
			c.fill(&i)
			if !strings.ContainsAny(form, c.letters) {
				holdWrong(t, i)
			} else if e := Check([]in{i}); e != api.OK {
				t.Errorf("%v: %d", i, e)
			}
		}
		i := instrOf(op)
		i.Labels, i.Body, i.Else = []int{}, []in{}, []in{}
		if e := Check([]in{i}); e != api.OK {
			t.Errorf("%v with empty lists: %d", i, e)
		}
	}
}

// TestTypes: blocks are of None, I32 or I64 (P5.1, P5.2).
func TestTypes(t *testing.T) {
	f := forms()
	for op := 0x02; op <= 0x04; op++ {
		for ty := -2; ty <= 600; ty++ {
			i := in{Op: op, Type: ty}
			if ty == 0x40 || ty == 0x7f || ty == 0x7e {
				holdRight(t, []byte{byte(op), byte(ty), 0x0b, 0x0b}, i)
			} else {
				holdWrong(t, i)
			}
			hold(t, []byte{byte(op), byte(ty), 0x0b, 0x0b}, f)
		}
	}
}

// TestNumbers: unsigned numbers of 32 bits, wherever one stands (P5.2).
func TestNumbers(t *testing.T) {
	for op, form := range forms() {
		for letter, fill := range map[string]func(i *in, v int){
			"i": func(i *in, v int) { i.Index = v },
			"a": func(i *in, v int) { i.Align = v },
			"o": func(i *in, v int) { i.Offset = v },
			"l": func(i *in, v int) { i.Labels = []int{0, v, 1} },
		} {
			if !strings.Contains(form, letter) {
				continue
			}
			i := in{Op: op}
			for _, v := range []int{math.MinInt, math.MinInt32, -1, 1 << 32, 1<<32 + 1, 1 << 62, math.MaxInt} {
				fill(&i, v)
				holdWrong(t, i)
			}
			for _, v := range []int{0, 1, 127, 128, 1<<31 - 1, 1 << 31, 1<<32 - 1} {
				fill(&i, v)
				b, e := Encode([]in{i})
				l, n, e2 := Decode(b)
				if e != api.OK || e2 != api.OK || n != len(b) || !same(l, []in{i}) {
					t.Errorf("%v: %x, %d, %v, %d", i, b, e, l, e2)
				}
			}
		}
	}
}

// TestConstants: signed numbers of 32 or 64 bits (P5.1, P5.2).
func TestConstants(t *testing.T) {
	for _, v := range []int64{math.MinInt64, math.MinInt64 + 1, math.MinInt32 - 1, math.MinInt32, -65, -64, -1, 0, 63, 64, math.MaxInt32, math.MaxInt32 + 1, 1<<32 - 1, math.MaxInt64} {
		b := leb.PutSint(v)
		holdRight(t, slices.Concat([]byte{0x42}, b, []byte{0x0b}), in{Op: 0x42, Val: v})
		short := slices.Concat([]byte{0x41}, b, []byte{0x0b})
		if v == int64(int32(v)) {
			holdRight(t, short, in{Op: 0x41, Val: v})
			continue
		}
		holdWrong(t, in{Op: 0x41, Val: v})
		if l, n, e := Decode(short); l != nil || n != 0 || e != api.ErrForm {
			t.Errorf("%x: %v, %d, %d", short, l, n, e)
		}
	}
}

// TestLongNumbers: numbers may be longer than they must, as far as leb lets them; Encode tells the short ones (P5.1, P5.2).
func TestLongNumbers(t *testing.T) {
	for _, c := range []struct {
		long, short []byte
	}{
		{[]byte{0x20, 0x85, 0x80, 0x80, 0x80, 0x00, 0x0b}, []byte{0x20, 0x05, 0x0b}},
		{[]byte{0x0e, 0x81, 0x00, 0x82, 0x00, 0x83, 0x80, 0x00, 0x0b}, []byte{0x0e, 0x01, 0x02, 0x03, 0x0b}},
		{[]byte{0x11, 0x81, 0x00, 0x00, 0x0b}, []byte{0x11, 0x01, 0x00, 0x0b}},
		{[]byte{0x28, 0x82, 0x80, 0x00, 0x88, 0x00, 0x0b}, []byte{0x28, 0x02, 0x08, 0x0b}},
		{[]byte{0x41, 0xff, 0xff, 0xff, 0xff, 0x7f, 0x0b}, []byte{0x41, 0x7f, 0x0b}},
		{[]byte{0x42, 0x80, 0x80, 0x80, 0x80, 0x80, 0x80, 0x80, 0x80, 0x80, 0x00, 0x0b}, []byte{0x42, 0x00, 0x0b}},
		{[]byte{0x04, 0x40, 0x05, 0x0b, 0x0b}, []byte{0x04, 0x40, 0x0b, 0x0b}},
	} {
		l, n, e := Decode(c.long)
		if n != len(c.long) || e != api.OK {
			t.Errorf("%x: %v, %d, %d", c.long, l, n, e)
		}
		if b, e := Encode(l); !bytes.Equal(b, c.short) || e != api.OK {
			t.Errorf("%x: again %x, %d", c.long, b, e)
		}
	}
	for _, b := range [][]byte{
		{0x20, 0x85, 0x80, 0x80, 0x80, 0x80, 0x00, 0x0b},
		{0x20, 0xff, 0xff, 0xff, 0xff, 0x1f, 0x0b},
		{0x0e, 0x01, 0x80, 0x80, 0x80, 0x80, 0x10, 0x00, 0x0b},
		{0x28, 0x80, 0x80, 0x80, 0x80, 0x10, 0x00, 0x0b},
		{0x28, 0x00, 0x80, 0x80, 0x80, 0x80, 0x10, 0x0b},
		{0x41, 0x80, 0x80, 0x80, 0x80, 0x80, 0x00, 0x0b},
		{0x42, 0x80, 0x80, 0x80, 0x80, 0x80, 0x80, 0x80, 0x80, 0x80, 0x01, 0x0b},
		{0x11, 0x00, 0x80, 0x00, 0x0b},
		{0x3f, 0x80, 0x00, 0x0b},
		{0x02, 0xc0, 0x00, 0x0b, 0x0b},
		{0x0e, 0xff, 0xff, 0xff, 0xff, 0x0f, 0x00, 0x00, 0x0b},
	} {
		if l, n, e := Decode(b); l != nil || n != 0 || e != api.ErrForm {
			t.Errorf("%x: %v, %d, %d", b, l, n, e)
		}
	}
}

// TestElse: 0x05 stands once, in an if alone, and not in an expression (P5.1).
func TestElse(t *testing.T) {
	for _, b := range [][]byte{
		{0x05},
		{0x05, 0x0b},
		{0x01, 0x05, 0x0b},
		{0x02, 0x40, 0x05, 0x0b, 0x0b},
		{0x03, 0x40, 0x01, 0x05, 0x01, 0x0b, 0x0b},
		{0x04, 0x40, 0x05, 0x05, 0x0b, 0x0b},
		{0x04, 0x40, 0x01, 0x05, 0x01, 0x05, 0x01, 0x0b, 0x0b},
		{0x04, 0x40, 0x02, 0x40, 0x05, 0x0b, 0x0b, 0x0b},
		{0x04, 0x40, 0x0b, 0x05, 0x0b},
	} {
		if l, n, e := Decode(b); l != nil || n != 0 || e != api.ErrForm {
			t.Errorf("%x: %v, %d, %d", b, l, n, e)
		}
	}
}

// nest puts blocks of these bytes, from the outermost on, around one another; below 0: it is within the if's Else.
func nest(ops []int) []in {
	var l []in
	for _, op := range slices.Backward(ops) {
		if op < 0 {
			l = []in{{Op: -op, Type: api.None, Else: append(l, in{Op: 0x01})}}
		} else {
			l = []in{{Op: op, Type: api.None, Body: l}}
		}
	}
	return l
}

// nestBytes are nest's bytes.
func nestBytes(ops []int) []byte {
	b := []byte{}
	for _, op := range ops {
		if op < 0 {
			b = append(b, byte(-op), 0x40, 0x05)
		} else {
			b = append(b, byte(op), 0x40)
		}
	}
	for _, op := range slices.Backward(ops) {
		if op < 0 {
			b = append(b, 0x01)
		}
		b = append(b, 0x0b)
	}
	return append(b, 0x0b)
}

// TestDeep: MaxDeep blocks within one another, and not one more (P5.1, P5.2).
func TestDeep(t *testing.T) {
	for _, kinds := range [][]int{{0x02}, {0x03}, {0x04}, {-0x04}, {0x02, 0x03, 0x04, -0x04}, {-0x04, 0x02, 0x04}} {
		ops := make([]int, 45)
		for k := range ops {
			ops[k] = kinds[k%len(kinds)]
		}
		for n := range ops {
			l, b := nest(ops[:n]), nestBytes(ops[:n])
			if n <= api.MaxDeep {
				holdRight(t, b, l...)
				continue
			}
			holdWrong(t, l...)
			if l, n, e := Decode(b); l != nil || n != 0 || e != api.ErrForm {
				t.Errorf("%x: %v, %d, %d", b, l, n, e)
			}
		}
	}
	deep, bytesOf := nest(slices.Repeat([]int{0x02}, 40)), nestBytes(slices.Repeat([]int{0x02}, 40))
	bytesOf = bytesOf[:len(bytesOf)-1]
	holdRight(t, append(bytes.Repeat(bytesOf, 3), 0x0b), slices.Concat(deep, deep, deep)...)
}

// TestEndless: texts that open blocks without an end, or promise more labels than there are, are refused (P5.1, R1).
func TestEndless(t *testing.T) {
	for _, b := range [][]byte{
		bytes.Repeat([]byte{0x02, 0x40}, 1<<16),
		bytes.Repeat([]byte{0x04, 0x40, 0x05}, 1<<16),
		bytes.Repeat([]byte{0x01}, 1<<16),
		append([]byte{0x0e, 0xff, 0xff, 0xff, 0xff, 0x0f}, make([]byte, 1<<16)...),
	} {
		if l, n, e := Decode(b); l != nil || n != 0 || e != api.ErrForm {
			t.Errorf("%x ..: %d, %d, %d", b[:6], len(l), n, e)
		}
	}
	round := []in{{Op: 0x02, Type: api.None}}
	round[0].Body = round
	if e := Check(round); e != api.ErrForm {
		t.Errorf("a block within itself: %d", e)
	}
}

// maker makes instructions, the same in each run.
type maker struct {
	r     *rand.Rand
	ops   []int
	forms map[int]string
}

func newMaker(seed int64) *maker {
	m := &maker{r: rand.New(rand.NewSource(seed)), forms: forms()}
	for op := range m.forms {
		m.ops = append(m.ops, op)
	}
	slices.Sort(m.ops)
	return m
}

func (m *maker) number() int {
	return int(m.r.Uint32() >> m.r.Intn(33))
}

func (m *maker) list(deep int) (l []in) {
	for range m.r.Intn(5) {
		l = append(l, m.instr(deep))
	}
	return l
}

func (m *maker) instr(deep int) in {
	i := in{Op: m.ops[m.r.Intn(len(m.ops))]}
	if deep < api.MaxDeep && m.r.Intn(3) == 0 {
		i.Op = 0x02 + m.r.Intn(3)
	}
	if deep == api.MaxDeep && i.Op >= 0x02 && i.Op <= 0x04 {
		i.Op = 0x01
	}
	for _, c := range m.forms[i.Op] {
		switch c {
		case 't':
			i.Type = []int{api.None, api.I32, api.I64}[m.r.Intn(3)]
		case 'l':
			for range m.r.Intn(4) {
				i.Labels = append(i.Labels, m.number())
			}
		case 'i':
			i.Index = m.number()
		case 'a':
			i.Align = m.number()
		case 'o':
			i.Offset = m.number()
		case 's':
			i.Val = int64(int32(m.r.Uint32())) >> m.r.Intn(33)
		case 'v':
			i.Val = int64(m.r.Uint64()) >> m.r.Intn(65)
		case 'b':
			i.Body = m.list(deep + 1)
		case 'e':
			i.Else = m.list(deep + 1)
		}
	}
	return i
}

// TestUndo: Decode of Encode are the instructions, whatever stands behind them; no less than all the bytes will do (P5.3).
func TestUndo(t *testing.T) {
	m := newMaker(5)
	for range 3000 {
		l := m.list(0)
		b, e := Encode(l)
		if e != api.OK || Check(l) != api.OK {
			t.Fatalf("%v: %d", l, e)
		}
		back, n, e := Decode(append(slices.Clone(b), 0x05, 0xff))
		if !same(back, l) || n != len(b) || e != api.OK {
			t.Fatalf("%v: %x, %v, %d, %d", l, b, back, n, e)
		}
		if again, e := Encode(back); !bytes.Equal(again, b) || e != api.OK {
			t.Fatalf("%x: again %x, %d", b, again, e)
		}
		for k := range min(len(b), 200) {
			if l, n, e := Decode(b[:k]); l != nil || n != 0 || e != api.ErrForm {
				t.Fatalf("%x, %d bytes of it: %v, %d, %d", b, k, l, n, e)
			}
		}
	}
}

// TestMangled holds expressions with bytes changed, put in or left out against the model (P5.1).
func TestMangled(t *testing.T) {
	m := newMaker(6)
	right := 0
	for range 20000 {
		b, _ := Encode(m.list(36))
		for range 1 + m.r.Intn(2) {
			at := m.r.Intn(len(b))
			switch m.r.Intn(3) {
			case 0:
				b[at] = byte(m.r.Intn(256))
			case 1:
				b = slices.Insert(b, at, byte(m.ops[m.r.Intn(len(m.ops))]))
			case 2:
				b = append(slices.Delete(b, at, at+1), 0x0b)
			}
		}
		if hold(t, b, m.forms) {
			right++
		}
	}
	if right < 1000 || right > 19000 {
		t.Errorf("%d of them are right: too few on one side", right)
	}
}

// TestNothingShared: what is handed in is neither changed nor kept, and no two lists that are told share memory (R2).
func TestNothingShared(t *testing.T) {
	m := newMaker(7)
	for range 300 {
		l := m.list(0)
		b, _ := Encode(l)
		b2, _ := Encode(l)
		first, _, _ := Decode(b)
		kept := slices.Clone(b)
		second, _, _ := Decode(b)
		if !bytes.Equal(b, kept) {
			t.Fatalf("%x: changed to %x", kept, b)
		}
		spoil(second)
		clear(b[:cap(b)])
		if !same(first, l) || !bytes.Equal(b2, kept) {
			t.Fatalf("%x: shared", kept)
		}
	}
	told, _, _ := Decode([]byte{0x04, 0x40, 0x0e, 0x01, 0x02, 0x03, 0x05, 0x0e, 0x01, 0x04, 0x05, 0x0b, 0x0e, 0x01, 0x06, 0x07, 0x0b})
	_ = append(told[0].Body, in{Op: 0x1a})
	_ = append(told[0].Body[0].Labels, 99)
	_ = append(told[0].Else[0].Labels, 99)
	want := []in{{Op: 0x04, Type: api.None, Body: []in{{Op: 0x0e, Labels: []int{2}, Index: 3}}, Else: []in{{Op: 0x0e, Labels: []int{4}, Index: 5}}}, {Op: 0x0e, Labels: []int{6}, Index: 7}}
	if !same(told, want) {
		t.Errorf("%v, not %v", told, want)
	}
}

// spoil writes over all that l have, spare room too.
func spoil(l []in) {
	for k := range l {
		spoil(l[k].Body)
		spoil(l[k].Else)
		for j := range l[k].Labels[:cap(l[k].Labels)] {
			l[k].Labels[:cap(l[k].Labels)][j] = -1
		}
	}
	clear(l[:cap(l)])
}
