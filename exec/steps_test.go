package exec

import (
	"bytes"
	"fmt"
	"math"
	"slices"
	"testing"

	"gangway/api"
)

// edges are numbers of that type about which something ends.
func edges(kind int) []int64 {
	l := []int64{0, 1, 2, 3, 5, 7, 30, 31, 32, 33, 63, 64, 65, 255, 256, 65535, 65536, 0x12345678, math.MaxInt32 - 1, math.MaxInt32, math.MinInt32, math.MinInt32 + 1, -1, -2, -3, -7, -31, -32, -33, -128, -32768, -65536}
	if kind == api.I64 {
		l = append(l, 1<<31, 1<<32-1, 1<<32, 1<<32+1, -1<<32, math.MinInt32-1, 0x123456789abcdef0, math.MaxInt64-1, math.MaxInt64, math.MinInt64, math.MinInt64+1)
	}
	return l
}

// shape tells what an operation on numbers takes and puts, as chapter 8 says.
func shape(n int) (from []int, to int) {
	kind, to := api.I32, api.I32
	if n >= 0x50 && n <= 0x5a || n >= 0x79 && n <= 0x8a || n == 0xa7 {
		kind = api.I64
	}
	if n >= 0x79 && n <= 0x8a || n >= 0xac {
		to = api.I64
	}
	return slices.Repeat([]int{kind}, takes(n)), to
}

// operations are the bytes of all operations on numbers.
func operations() []int {
	var l []int
	for n := 0x45; n <= 0xad; n++ {
		if n <= 0x5a || n >= 0x67 && n <= 0x8a || n == 0xa7 || n >= 0xac {
			l = append(l, n)
		}
	}
	return l
}

// TestNumbers: every operation on numbers, held against the model at all edges (P10.3).
func TestNumbers(t *testing.T) {
	for _, n := range operations() {
		from, to := shape(n)
		l := []in{at(0x20, 0)}
		if len(from) == 2 {
			l = append(l, at(0x20, 1))
		}
		x := fresh(t, single(from, []int{to}, nil, append(l, op(n))...))
		check := func(vals ...int64) {
			v, why := number(n, vals)
			want := fmt.Sprintf("1 0 0 [%d] for %d", v, len(vals)+1)
			if why != 0 {
				want = fmt.Sprintf("3 0 %d [] for %d", why, len(vals)+1)
			}
			if got := outcome(t, x, 0, vals...); got != want {
				t.Errorf("%#x of %v: %s, not %s", n, vals, got, want)
			}
		}
		for _, a := range edges(from[0]) {
			if len(from) == 1 {
				check(a)
				continue
			}
			for _, b := range edges(from[0]) {
				check(a, b)
			}
		}
	}
}

// TestTraps: the traps of numbers as chapters 3 and 4 name them (P10.3).
func TestTraps(t *testing.T) {
	for n := 0x6d; n <= 0x70; n++ {
		two := []int{api.I32, api.I32}
		hold(t, "3 0 2 [] for 3", single(two, i32, nil, at(0x20, 0), at(0x20, 1), op(n)), 5, 0)
		hold(t, "3 0 2 [] for 3", single([]int{api.I64, api.I64}, i64, nil, at(0x20, 0), at(0x20, 1), op(n+0x12)), 5, 0)
	}
	hold(t, "3 0 3 [] for 3", single(nil, i32, nil, c32(math.MinInt32), c32(-1), op(0x6d)))
	hold(t, "1 0 0 [0] for 3", single(nil, i32, nil, c32(math.MinInt32), c32(-1), op(0x6f)))
	hold(t, "3 0 3 [] for 3", single(nil, i64, nil, c64(math.MinInt64), c64(-1), op(0x7f)))
	hold(t, "1 0 0 [0] for 3", single(nil, i64, nil, c64(math.MinInt64), c64(-1), op(0x81)))
}

// pattern is a page none of whose bytes is like those near it.
func pattern() []byte {
	b := make([]byte, 65536)
	for k := range b {
		b[k] = byte(113 + 7*k + k/251)
	}
	return b
}

// TestMoves: every load and store, at places and offsets about which the memory ends, held against the model (P10.3).
func TestMoves(t *testing.T) {
	for n, w := range widthOf {
		kind := api.I32
		if w.wide {
			kind = api.I64
		}
		for _, offset := range []int{0, 1, 7, 65528, 65535, 65536, 1 << 31, math.MaxUint32} {
			i := in{Op: n, Offset: offset}
			m := single([]int{api.I32, kind}, []int{kind}, nil, at(0x20, 0), i)
			if w.store {
				m = single([]int{api.I32, kind}, nil, nil, at(0x20, 0), at(0x20, 1), i)
			}
			x := fresh(t, m)
			v := newModel(m, caps())
			copy(v.memory, pattern())
			x.Memory().Write(0, pattern())
			for _, place := range []int64{0, 1, 2, 3, 8, 127, 128, 300, 65527, 65528, 65529, 65530, 65531, 65532, 65533, 65534, 65535, 65536, math.MaxInt32, math.MinInt32, -65536, -8, -7, -2, -1} {
				for _, val := range edges(kind)[len(edges(kind))-10:] {
					v.spent = 0
					s := v.run(0, []int64{place, val}, 99)
					want := fmt.Sprint(show(s), " for ", v.spent)
					if got := outcome(t, x, 0, place, val); got != want {
						t.Errorf("%#x with %d at %d of %d: %s, not %s", n, offset, place, val, got, want)
					}
					if !w.store {
						break
					}
				}
			}
			if !bytes.Equal(everything(t, x.Memory()), v.memory) {
				t.Errorf("%#x with %d: another memory", n, offset)
			}
		}
	}
}

// TestSigns: loads of fewer bytes, with signs and without (P10.3).
func TestSigns(t *testing.T) {
	for n, want := range map[int]int64{
		0x28: -0x7b7c7d7f, 0x29: -0x7778797a7b7c7d7f, 0x2c: -0x7f, 0x2d: 0x81, 0x2e: -0x7d7f, 0x2f: 0x8281,
		0x30: -0x7f, 0x31: 0x81, 0x32: -0x7d7f, 0x33: 0x8281, 0x34: -0x7b7c7d7f, 0x35: 0x84838281,
	} {
		result := i32
		if widthOf[n].wide {
			result = i64
		}
		m := single(nil, result, nil, c32(4), in{Op: n, Offset: 3, Align: 0})
		m.Datas = []api.Data{{Offset: c32(6), Bytes: []byte{0, 0x81, 0x82, 0x83, 0x84, 0x85, 0x86, 0x87, 0x88, 0}}}
		hold(t, fmt.Sprintf("1 0 0 [%d] for 2", want), m)
	}
}

// TestGrow: how many pages there are, and may be (P10.3).
func TestGrow(t *testing.T) {
	for _, c := range []struct {
		lim   api.Limits
		pages int
		most  int64
	}{{api.Limits{Min: 1, Max: -1}, 1, 1}, {api.Limits{Min: 1, Max: -1}, 4, 4}, {api.Limits{Min: 1, Max: 3}, 4, 3}, {api.Limits{Min: 0, Max: 65536}, 16, 16}, {api.Limits{Min: 2, Max: 2}, 4, 2}, {api.Limits{}, 0, 0}} {
		m := single(i32, i32, nil, at(0x20, 0), op(0x40))
		m.Memories[0] = c.lim
		m.Types = append(m.Types, api.FuncType{Results: i32})
		m.Funcs = append(m.Funcs, api.Func{Type: 1, Body: []in{op(0x3f)}})
		x, e := New(m, api.Caps{Pages: c.pages, Depth: 1})
		if e != api.OK {
			t.Fatalf("%v: %d", c, e)
		}
		has := int64(c.lim.Min)
		for _, n := range []int64{-1, 0, math.MinInt32, math.MaxInt32, 65536, 1, 2, 1, 0, 1, 16, 15, 14, 13, 12, 1, -2} {
			want := int64(-1)
			if n >= 0 && has+n <= c.most {
				want = has
				has += n
			}
			if got := outcome(t, x, 0, n); got != fmt.Sprintf("1 0 0 [%d] for 2", want) {
				t.Errorf("%v: %d pages more: %s, not %d", c, n, got, want)
			}
			if got := outcome(t, x, 1); got != fmt.Sprintf("1 0 0 [%d] for 1", has) || x.Memory().Size() != int(has) {
				t.Errorf("%v: %s, not %d pages", c, got, has)
			}
		}
	}
	hold(t, "1 0 0 [0] for 6", single(nil, i32, nil, c32(1), op(0x40), op(0x1a), c32(65535), in{Op: 0x28, Offset: 1}, op(0x01)))
}

// TestMemory: it is the machine's own, not a copy (P10.4).
func TestMemory(t *testing.T) {
	x := fresh(t, single(nil, i32, nil, c32(3), c32(77), in{Op: 0x3a}, c32(4), in{Op: 0x2d}, op(0x3f), op(0x6a)))
	y := x.Memory()
	y.Write(4, []byte{50})
	y.Grow(1)
	if got := outcome(t, x, 0); got != "1 0 0 [52] for 7" {
		t.Errorf("%s", got)
	}
	if b, e := y.Read(3, 2); !bytes.Equal(b, []byte{77, 50}) || e != api.OK || x.Memory() != y {
		t.Errorf("%v, %d", b, e)
	}
}

// TestSelect: the first one for all but 0 (P10.3).
func TestSelect(t *testing.T) {
	for _, n := range []int64{0, 1, 2, -1, math.MinInt32, math.MaxInt32, 256, 65536} {
		want := "1 0 0 [-11] for"
		if n == 0 {
			want = "1 0 0 [-22] for"
		}
		hold(t, want+" 4", single(i32, i64, nil, c64(-11), c64(-22), at(0x20, 0), op(0x1b)), n)
		hold(t, want+" 4", single(i32, i32, nil, c32(-11), c32(-22), at(0x20, 0), op(0x1b)), n)
		hold(t, want+" 8", single(i32, i32, nil, c32(9), c32(-11), c32(-22), at(0x20, 0), op(0x1b), at(0x21, 0), op(0x1a), at(0x20, 0)), n)
	}
}

// TestGlobals: got and set; of 64 bits whole (P10.3, P10.4).
func TestGlobals(t *testing.T) {
	x := fresh(t, single(nil, i64, nil, at(0x23, 0), op(0xac), at(0x23, 1), op(0x7c), at(0x24, 1), c32(-99), at(0x24, 0), at(0x23, 1)))
	if got := outcome(t, x, 0); got != "1 0 0 [1099511627770] for 8" {
		t.Errorf("%s", got)
	}
	if got := fmt.Sprint(x.Globals()); got != "[-99 1099511627770]" {
		t.Errorf("%s", got)
	}
	if got := outcome(t, x, 0); got != "1 0 0 [1099511627671] for 8" {
		t.Errorf("%s", got)
	}
}

// TestBranches: which instruction comes next, and which values are left (P10.3).
func TestBranches(t *testing.T) {
	br := func(k int) in { return at(0x0c, k) }
	brIf := func(k int) in { return at(0x0d, k) }
	for _, c := range []struct {
		want string
		l    []in
	}{
		// to a block's end, to the function's
		{"1 0 0 [3] for 5", []in{nest(0x02, api.I32, c32(1), c32(2), c32(3), br(0))}},
		{"1 0 0 [3] for 6", []in{c32(9), nest(0x02, api.None, c64(1), c64(2), c32(3), br(1)), op(0x1a), c32(4)}},
		{"1 0 0 [12] for 6", []in{c32(9), nest(0x02, api.I32, c64(1), c32(3), br(0)), op(0x6a)}},
		{"1 0 0 [12] for 8", []in{c32(9), nest(0x02, api.I32, c64(1), nest(0x02, api.None, c64(5), c32(3), br(1)), op(0x1a), c32(4)), op(0x6a)}},
		{"1 0 0 [4] for 4", []in{nest(0x02, api.None, c64(1), br(0), c32(3), op(0x0f)), c32(4)}},
		{"1 0 0 [5] for 4", []in{nest(0x02, api.None, c64(2), c32(5), br(1)), c32(4)}},
		// with a condition
		{"1 0 0 [3] for 4", []in{nest(0x02, api.I32, c32(3), c32(1), brIf(0), op(0x45))}},
		{"1 0 0 [3] for 4", []in{nest(0x02, api.I32, c32(3), c32(math.MinInt32), brIf(0), op(0x45))}},
		{"1 0 0 [0] for 5", []in{nest(0x02, api.I32, c32(3), c32(0), brIf(0), op(0x45))}},
		{"1 0 0 [8] for 4", []in{c32(7), c32(8), c32(1), brIf(0), op(0x6a)}},
		{"1 0 0 [15] for 5", []in{c32(7), c32(8), c32(0), brIf(0), op(0x6a)}},
		// return
		{"1 0 0 [6] for 6", []in{nest(0x02, api.I32, nest(0x03, api.I32, c64(2), c64(3), c32(6), op(0x0f))), op(0x45)}},
		{"1 0 0 [6] for 3", []in{c64(5), c32(6), op(0x0f), op(0x00)}},
		// an if
		{"1 0 0 [2] for 4", []in{c32(1), {Op: 0x04, Type: api.I32, Body: []in{c32(2), br(0)}, Else: []in{c32(3), br(0)}}}},
		{"1 0 0 [3] for 4", []in{c32(0), {Op: 0x04, Type: api.I32, Body: []in{c32(2), br(0)}, Else: []in{c32(3), br(0)}}}},
		{"1 0 0 [2] for 3", []in{c32(-1), {Op: 0x04, Type: api.I32, Body: []in{c32(2)}, Else: []in{c32(3)}}}},
		{"1 0 0 [4] for 4", []in{c32(1), nest(0x04, api.None, br(0), op(0x00)), c32(4)}},
		{"1 0 0 [4] for 3", []in{c32(0), nest(0x04, api.None, br(0), op(0x00)), c32(4)}},
		{"1 0 0 [7] for 7", []in{c32(5), c32(0), {Op: 0x04, Type: api.I32, Body: []in{op(0x00)}, Else: []in{c64(1), c32(2), br(0)}}, op(0x6a)}},
		// a loop: from its first instruction on, with nothing above its height, and once through
		{"1 0 0 [10] for 43", []in{c32(10), nest(0x03, api.None, c64(1), at(0x20, 0), c32(1), op(0x6a), at(0x22, 0), c32(5), op(0x49), brIf(0), op(0x1a))}},
		{"1 0 0 [3] for 28", []in{nest(0x03, api.I32, at(0x20, 0), c32(1), op(0x6a), at(0x22, 0), at(0x20, 0), c32(3), op(0x47), nest(0x04, api.None, br(1)), op(0x01))}},
		{"1 0 0 [7] for 2", []in{nest(0x03, api.I32, c32(7))}},
		{"1 0 0 [9] for 5", []in{nest(0x02, api.I32, nest(0x03, api.None, c64(1), c32(9), br(1)), op(0x00))}},
	} {
		hold(t, c.want, single(nil, i32, i32, c.l...))
	}
}

// TestBranchTable: the label at the number, or Index, the number without a sign (P10.3).
func TestBranchTable(t *testing.T) {
	for _, labels := range [][]int{nil, {1}, {0, 1}, {3, 2, 1, 0}, {0, 0, 1, 3, 3, 2}} {
		l := []in{c64(6), c32(50), at(0x20, 0), {Op: 0x0e, Index: 2, Labels: labels}}
		for k := range 3 {
			l = []in{nest(0x02, api.I32, l...), c32(int64(1 + k)), op(0x6a)}
		}
		sums := []int64{56, 55, 53, 50} // behind blocks 0, 1, 2, and the function
		m := single(i32, i32, nil, l...)
		for _, n := range []int64{0, 1, 2, 3, 4, 5, 6, 7, -1, -2, math.MinInt32, math.MaxInt32} {
			label := 2
			if n >= 0 && n < int64(len(labels)) {
				label = labels[n]
			}
			spent := 3 + 4 + 2*(3-label)
			hold(t, fmt.Sprintf("1 0 0 [%d] for %d", sums[label], spent), m, n)
		}
	}
}

// TestValuesOfCallers: what a function leaves above its result is gone, what its caller has stays (P10.2, P10.3).
func TestValuesOfCallers(t *testing.T) {
	for _, l := range [][]in{
		{at(0x20, 0), at(0x20, 1), op(0x6b)},
		{c64(1), c32(2), at(0x20, 0), at(0x20, 1), op(0x6b), op(0x0f)},
		{c64(1), c32(2), at(0x20, 0), at(0x20, 1), op(0x6b), at(0x0c, 0)},
		{c64(1), nest(0x02, api.I32, c32(4), at(0x20, 0), at(0x20, 1), op(0x6b), at(0x0c, 1)), op(0x00)},
	} {
		m := single(nil, i32, nil, c32(1000), c32(1), c32(30), c32(5), at(0x10, 1), op(0x6b), op(0x6a))
		m.Types = append(m.Types, api.FuncType{Params: []int{api.I32, api.I32}, Results: i32})
		m.Funcs = append(m.Funcs, api.Func{Type: 1, Body: l})
		x := fresh(t, m)
		x.Call(0, nil)
		if s, e := x.Run(99); show(s) != "1 0 0 [976]" || e != api.OK {
			t.Errorf("%v: %v, %d", l, s, e)
		}
	}
}

// withLists tells a module with something in each list that New reads; its function 1, of 3 and 2^40, tells 2^40 - 6.
func withLists() api.Module {
	m := single(both, i64, i32,
		nest(0x02, api.None, c32(1), in{Op: 0x0e, Labels: []int{0, 0}}),
		c32(1), in{Op: 0x04, Type: api.None, Body: []in{op(0x01)}, Else: []in{op(0x00)}},
		c32(0), in{Op: 0x04, Type: api.None, Body: []in{op(0x00)}, Else: []in{op(0x01)}},
		at(0x20, 1), at(0x20, 0), c32(0), at(0x11, 1), at(0x23, 0), op(0xac), op(0x7c))
	m.Types = append(m.Types, api.FuncType{Params: []int{api.I64, api.I32}, Results: i64})
	m.Imports = []api.Import{{Module: "m", Type: 0}}
	m.Funcs = append(m.Funcs, api.Func{Type: 1, Body: []in{at(0x20, 0)}})
	m.Elems = []api.Elem{{Offset: c32(0), Funcs: []int{2, 0}}}
	m.Datas = []api.Data{{Offset: c32(0), Bytes: []byte("abc")}}
	return roomy(m)
}

// TestNothingShared: what is handed in is neither changed nor kept, what is told is the caller's own, and machines have nothing in common (R2).
func TestNothingShared(t *testing.T) {
	m, kept := withLists(), withLists()
	x, y := fresh(t, m), fresh(t, m)
	if fmt.Sprint(m) != fmt.Sprint(kept) {
		t.Fatal("New has changed the module")
	}
	vals := []int64{3, 1 << 40, 99}
	if x.Call(1, vals[:2]) != api.OK || y.Call(1, vals[:2]) != api.OK {
		t.Fatal("Call")
	}
	spoil(&m)
	clear(vals)
	first, _ := x.Run(api.MaxFuel)
	clear(first.Vals)
	_ = append(first.Vals, 1, 2, 3)
	g := x.Globals()
	g[0] = 77
	_ = append(g[:1], 88)
	if got := fmt.Sprint(x.Globals()); got != "[-6 1099511627776]" {
		t.Errorf("globals: %s", got)
	}
	x.Memory().Write(0, []byte("xyz"))
	if b, _ := y.Memory().Read(0, 3); string(b) != "abc" {
		t.Errorf("another machine's memory: %q", b)
	}
	second, _ := y.Run(api.MaxFuel)
	if show(second) != "1 0 0 [1099511627770]" {
		t.Errorf("%v", second)
	}
}

// TestVals: what is told of a call of an imported one, and what is answered, is the caller's own (R2).
func TestVals(t *testing.T) {
	m := importing(api.FuncType{Params: []int{api.I64, api.I64}, Results: i64}, c64(5), c64(6), c64(7), at(0x10, 1), op(0x7c))
	x := fresh(t, m)
	x.Call(2, nil)
	s, _ := x.Run(4)
	if show(s) != "2 1 0 [6 7]" {
		t.Fatalf("%v", s)
	}
	all := s.Vals[:cap(s.Vals)]
	for k := range all {
		all[k] = 99
	}
	answer := make([]int64, 1, 4)
	answer[0] = 20
	if e := x.Answer(answer); e != api.OK {
		t.Fatalf("%d", e)
	}
	answer[0] = 99
	s, _ = x.Run(1)
	if show(s) != "1 0 0 [25]" {
		t.Errorf("%v", s)
	}
	for k := range s.Vals[:cap(s.Vals)] {
		s.Vals[:cap(s.Vals)][k] = 99
	}
	if got := answer[:cap(answer)]; got[1] != 0 || got[2] != 0 {
		t.Errorf("%v", got)
	}
	x.Call(2, nil)
	if s, _ := x.Run(4); show(s) != "2 1 0 [6 7]" {
		t.Errorf("again: %v", s)
	}
}

// roomy gives all lists spare room.
func roomy(m api.Module) api.Module {
	for k := range m.Types {
		m.Types[k].Params, m.Types[k].Results = slices.Grow(slices.Clone(m.Types[k].Params), 3), slices.Grow(slices.Clone(m.Types[k].Results), 3)
	}
	for k := range m.Funcs {
		m.Funcs[k].Body, m.Funcs[k].Locals = slices.Grow(m.Funcs[k].Body, 3), slices.Grow(slices.Clone(m.Funcs[k].Locals), 3)
	}
	for k := range m.Datas {
		m.Datas[k].Bytes = slices.Grow(m.Datas[k].Bytes, 3)
	}
	m.Globals = slices.Grow(m.Globals, 3)
	return m
}

// spoil writes over all that m has.
func spoil(m *api.Module) {
	for _, kind := range m.Types {
		for _, l := range [][]int{kind.Params, kind.Results} {
			for k := range l {
				l[k] ^= api.I32 ^ api.I64
			}
		}
	}
	for _, f := range m.Funcs {
		clear(f.Locals)
		spoilBody(f.Body)
	}
	for _, x := range m.Elems {
		clear(x.Funcs)
	}
	for _, x := range m.Datas {
		clear(x.Bytes)
	}
	clear(m.Types)
	clear(m.Imports)
	clear(m.Funcs)
	clear(m.Tables)
	clear(m.Memories)
	clear(m.Globals)
	clear(m.Elems)
	clear(m.Datas)
}

func spoilBody(l []in) {
	for k := range l {
		spoilBody(l[k].Body)
		spoilBody(l[k].Else)
		for j := range l[k].Labels {
			l[k].Labels[j] = 1 << 20
		}
		l[k] = in{}
	}
}

// TestUnreachable: behind what is never come to, any instructions change nothing (P10.5).
func TestUnreachable(t *testing.T) {
	dead := []in{op(0x6a), op(0x1b), at(0x11, 0), op(0x1a), nest(0x02, api.I32, op(0x00), at(0x0c, 0)), op(0x1a), {Op: 0x36}, at(0x20, 0), op(0x1a)}
	for _, stop := range [][]in{{op(0x00)}, {c32(4), op(0x0f)}, {c32(4), at(0x0c, 0)}, {c32(4), c32(0), {Op: 0x0e, Index: 0}}} {
		want := outcome(t, fresh(t, single(nil, i32, i32, stop...)), 0)
		hold(t, want, single(nil, i32, i32, append(slices.Clone(stop), dead...)...))
	}
}

// TestDeepest: as many blocks in one another as may be, in as many calls as may be (T4).
func TestDeepest(t *testing.T) {
	l := []in{at(0x20, 0), nest(0x04, api.None, at(0x20, 0), c32(1), op(0x6b), at(0x10, 0))}
	for k := range 39 {
		l = []in{nest(0x02+k%2, api.None, l...)}
	}
	m := single(i32, nil, nil, l...)
	x, e := New(m, api.Caps{Pages: 1, Depth: 64})
	if e != api.OK {
		t.Fatalf("%d", e)
	}
	if got := outcome(t, x, 0, 63); got != fmt.Sprintf("1 0 0 [] for %d", 64*41+63*4) {
		t.Errorf("%s", got)
	}
	if got := outcome(t, x, 0, 64); got != fmt.Sprintf("5 0 0 [] for %d", 64*45) {
		t.Errorf("%s", got)
	}
}
