package exec

import (
	"fmt"
	"math"
	"slices"
	"testing"

	"gangway/api"
)

var (
	i32  = []int{api.I32}
	i64  = []int{api.I64}
	both = []int{api.I32, api.I64}
)

func caps() api.Caps { return api.Caps{Pages: 4, Depth: 5} }

// single tells a module of one function, of type 0, with a table of 3 places, a memory of a page, up to 3, and two globals.
func single(params, results, locals []int, l ...in) api.Module {
	return api.Module{
		Types:    []api.FuncType{{Params: params, Results: results}},
		Funcs:    []api.Func{{Locals: locals, Body: l}},
		Tables:   []api.Limits{{Min: 3, Max: -1}},
		Memories: []api.Limits{{Min: 1, Max: 3}},
		Globals:  []api.Global{{Type: api.I32, Mut: true, Init: c32(-6)}, {Type: api.I64, Mut: true, Init: c64(1 << 40)}},
		Start:    -1,
	}
}

func fresh(t *testing.T, m api.Module) *Machine {
	t.Helper()
	x, e := New(m, caps())
	if e != api.OK || x == nil {
		t.Fatalf("New: %d", e)
	}
	return x
}

func show(s api.Stop) string { return fmt.Sprint(s.Kind, s.Func, s.Why, s.Vals) }

// outcome calls function f, and tells how it ends with all fuel, and how many instructions were paid for.
func outcome(t *testing.T, x *Machine, f int, vals ...int64) string {
	t.Helper()
	was := x.Spent()
	if e := x.Call(f, vals); e != api.OK {
		t.Fatalf("Call(%d, %v): %d", f, vals, e)
	}
	s, e := x.Run(api.MaxFuel)
	if e != api.OK {
		t.Fatalf("Run: %d", e)
	}
	return show(s) + " for " + fmt.Sprint(x.Spent()-was)
}

// hold: the module's function 0 of a new machine ends so.
func hold(t *testing.T, want string, m api.Module, vals ...int64) {
	t.Helper()
	if got := outcome(t, fresh(t, m), 0, vals...); got != want {
		t.Errorf("%v of %v: %s, not %s", m.Funcs[0].Body, vals, got, want)
	}
}

// TestExamples tells the chapter's.
func TestExamples(t *testing.T) {
	hold(t, "1 0 0 [5] for 3", single([]int{api.I32, api.I32}, i32, nil, at(0x20, 0), at(0x20, 1), op(0x6a)), 2, 3)
}

// TestCaps: which caps may be (P10.1).
func TestCaps(t *testing.T) {
	m := api.Module{Start: -1}
	for _, pages := range []int{math.MinInt, -2, -1, 0, 1, 2, 15, 16, 17, 18, math.MaxInt} {
		for _, depth := range []int{math.MinInt, -1, 0, 1, 2, 63, 64, 65, 66, math.MaxInt} {
			want := api.ErrForm
			if pages >= 0 && pages <= 16 && depth >= 1 && depth <= 64 {
				want = api.OK
			}
			if x, e := New(m, api.Caps{Pages: pages, Depth: depth}); e != want || (x == nil) != (e != api.OK) {
				t.Errorf("%d, %d: %d", pages, depth, e)
			}
		}
	}
}

type change = func(m *api.Module)

// TestErrors: what New refuses, each error by itself, and the first one that the chapter lists where several apply (P10.1, R4).
func TestErrors(t *testing.T) {
	wrongCaps := api.Caps{Pages: 17, Depth: 5}
	form := func(m *api.Module) { m.Start = -2 }
	kind := func(m *api.Module) { m.Funcs[0].Body = []in{op(0x6a)} }
	imported := func(i api.Import) change {
		return func(m *api.Module) { m.Imports = append(m.Imports, i) }
	}
	table := imported(api.Import{Kind: api.KindTable, Lim: api.Limits{Min: 1, Max: -1}})
	memory := imported(api.Import{Kind: api.KindMemory, Lim: api.Limits{Min: 1, Max: -1}})
	global := imported(api.Import{Kind: api.KindGlobal, Type: api.I32})
	noTable := func(m *api.Module) { m.Tables = nil }
	noMemory := func(m *api.Module) { m.Memories = nil }
	pages := func(least, most int) change {
		return func(m *api.Module) { m.Memories[0] = api.Limits{Min: least, Max: most} }
	}
	places := func(least, most int) change {
		return func(m *api.Module) { m.Tables[0] = api.Limits{Min: least, Max: most} }
	}
	elem := func(offset int64, funcs ...int) change {
		return func(m *api.Module) { m.Elems = append(m.Elems, api.Elem{Offset: c32(offset), Funcs: funcs}) }
	}
	data := func(offset int64, b string) change {
		return func(m *api.Module) { m.Datas = append(m.Datas, api.Data{Offset: c32(offset), Bytes: []byte(b)}) }
	}
	byGlobal := func(m *api.Module) { m.Elems = []api.Elem{{Offset: at(0x23, 0)}} }
	for k, c := range []struct {
		want    api.Errno
		c       api.Caps
		changes []change
	}{
		{api.OK, caps(), nil},
		{api.ErrForm, wrongCaps, nil},
		{api.ErrForm, caps(), []change{form}},
		{api.ErrForm, wrongCaps, []change{kind, global, pages(18, -1), elem(9, 0)}},
		{api.ErrForm, caps(), []change{form, kind, global, pages(18, -1), elem(9, 0)}},
		{api.ErrType, caps(), []change{kind}},
		{api.ErrType, caps(), []change{kind, global, pages(18, -1), elem(9, 0)}},
		{api.ErrType, caps(), []change{pages(65537, -1)}},
		{api.ErrType, caps(), []change{table}},
		{api.ErrLink, caps(), []change{noTable, table}},
		{api.ErrLink, caps(), []change{noMemory, memory}},
		{api.ErrLink, caps(), []change{global}},
		{api.ErrLink, caps(), []change{imported(api.Import{}), global}},
		{api.ErrLink, caps(), []change{global, imported(api.Import{})}},
		{api.ErrLink, caps(), []change{global, byGlobal}},
		{api.ErrLink, caps(), []change{global, pages(5, -1)}},
		{api.OK, caps(), []change{imported(api.Import{}), imported(api.Import{})}},
		{api.OK, caps(), []change{pages(0, 0)}},
		{api.OK, caps(), []change{pages(4, -1)}},
		{api.OK, caps(), []change{pages(4, 65536)}},
		{api.ErrNospc, caps(), []change{pages(5, -1)}},
		{api.ErrNospc, caps(), []change{pages(5, 5)}},
		{api.ErrNospc, caps(), []change{pages(65536, 65536)}},
		{api.ErrNospc, caps(), []change{pages(5, -1), elem(9, 0)}},
		{api.ErrNospc, api.Caps{Depth: 1}, nil},
		{api.OK, api.Caps{Depth: 1}, []change{noMemory}},
		{api.OK, api.Caps{Depth: 1}, []change{pages(0, -1)}},
		{api.OK, caps(), []change{places(256, -1)}},
		{api.OK, caps(), []change{places(0, 0)}},
		{api.OK, caps(), []change{places(256, math.MaxUint32)}},
		{api.ErrNospc, caps(), []change{places(257, -1)}},
		{api.ErrNospc, caps(), []change{places(math.MaxUint32, math.MaxUint32)}},
		{api.ErrNospc, caps(), []change{places(257, -1), data(65536, "a")}},
		{api.OK, caps(), []change{elem(2, 0)}},
		{api.OK, caps(), []change{elem(0, 0, 0, 0)}},
		{api.OK, caps(), []change{elem(3)}},
		{api.ErrLink, caps(), []change{elem(3, 0)}},
		{api.ErrLink, caps(), []change{elem(2, 0, 0)}},
		{api.ErrLink, caps(), []change{elem(4)}},
		{api.ErrLink, caps(), []change{elem(-1)}},
		{api.ErrLink, caps(), []change{elem(-1, 0)}},
		{api.ErrLink, caps(), []change{elem(math.MinInt32, 0)}},
		{api.ErrLink, caps(), []change{elem(0, 0), elem(3, 0)}},
		{api.OK, caps(), []change{data(65535, "a")}},
		{api.OK, caps(), []change{data(65536, "")}},
		{api.ErrLink, caps(), []change{data(65536, "a")}},
		{api.ErrLink, caps(), []change{data(65535, "ab")}},
		{api.ErrLink, caps(), []change{data(65537, "")}},
		{api.ErrLink, caps(), []change{data(-1, "")}},
		{api.ErrLink, caps(), []change{data(-2, "a")}},
		{api.ErrLink, caps(), []change{data(math.MinInt32, "a")}},
		{api.ErrLink, caps(), []change{data(0, "a"), data(65536, "a")}},
		{api.ErrLink, caps(), []change{pages(0, -1), data(0, "a")}},
		{api.OK, caps(), []change{pages(0, -1), data(0, "")}},
	} {
		m := single(nil, nil, nil)
		for _, f := range c.changes {
			f(&m)
		}
		if x, e := New(m, c.c); e != c.want || (x == nil) != (e != api.OK) {
			t.Errorf("%d: %d, not %d", k, e, c.want)
		}
	}
}

// TestFirst: what there is at first: globals, memory, table; later parts are written over earlier ones (P10.1, P10.4).
func TestFirst(t *testing.T) {
	m := single(nil, nil, nil)
	m.Globals = []api.Global{{Type: api.I32, Init: c32(math.MinInt32)}, {Type: api.I64, Mut: true, Init: c64(math.MinInt64)}, {Type: api.I32, Mut: true, Init: c32(7)}, {Type: api.I64, Init: c64(1<<63 - 1)}}
	m.Datas = []api.Data{{Offset: c32(10), Bytes: []byte("abcdef")}, {Offset: c32(12), Bytes: []byte("xy")}, {Offset: c32(65536)}, {Offset: c32(11), Bytes: []byte("-")}}
	x := fresh(t, m)
	if got := fmt.Sprint(x.Globals()); got != "[-2147483648 -9223372036854775808 7 9223372036854775807]" {
		t.Errorf("globals: %s", got)
	}
	want := make([]byte, 65536)
	copy(want[10:], "a-xyef")
	if b := everything(t, x.Memory()); !slices.Equal(b, want) {
		t.Errorf("memory: %q", b[:20])
	}
	if x.Spent() != 0 {
		t.Errorf("spent %d", x.Spent())
	}
	bare, e := New(api.Module{Start: -1}, api.Caps{Depth: 1})
	if e != api.OK || bare.Memory() != nil || len(bare.Globals()) != 0 || bare.Spent() != 0 {
		t.Errorf("bare: %d", e)
	}
	for _, pages := range []int{0, 1, 4} {
		m.Datas = nil
		m.Memories[0] = api.Limits{Min: pages, Max: -1}
		if x := fresh(t, m); x.Memory() == nil || x.Memory().Size() != pages {
			t.Errorf("%d pages", pages)
		}
	}
}

// constants tells a module of functions of type 0 that tell their numbers, with one more, of type 1, that calls the place it is given.
func constants(n int) api.Module {
	m := single(nil, i32, nil)
	m.Funcs = nil
	for k := range n {
		m.Funcs = append(m.Funcs, api.Func{Type: 0, Body: []in{c32(int64(k))}})
	}
	m.Types = append(m.Types, api.FuncType{Params: i32, Results: i32})
	m.Funcs = append(m.Funcs, api.Func{Type: 1, Body: []in{at(0x20, 0), at(0x11, 0)}})
	return m
}

// TestTable: where Elems are written, and that what is written nowhere is nothing (P10.1, P10.3).
func TestTable(t *testing.T) {
	m := constants(5)
	m.Tables[0].Min = 256
	m.Elems = []api.Elem{{Offset: c32(3), Funcs: []int{1, 2, 3, 4}}, {Offset: c32(4), Funcs: []int{0, 0}}, {Offset: c32(255), Funcs: []int{4}}, {Offset: c32(256)}}
	x := fresh(t, m)
	places := map[int64]int{3: 1, 4: 0, 5: 0, 6: 4, 255: 4}
	for _, place := range []int64{0, 1, 2, 3, 4, 5, 6, 7, 8, 254, 255, 256, 257, -1, -256, math.MinInt32, math.MaxInt32} {
		want := "3 0 5 [] for 2"
		if number, ok := places[place]; ok {
			want = fmt.Sprintf("1 0 0 [%d] for 3", number)
		}
		if got := outcome(t, x, 5, place); got != want {
			t.Errorf("%d: %s, not %s", place, got, want)
		}
	}
	m.Tables[0].Min, m.Elems = 0, nil
	x = fresh(t, m)
	for _, place := range []int64{0, 1, -1} {
		if got := outcome(t, x, 5, place); got != "3 0 5 [] for 2" {
			t.Errorf("an empty table at %d: %s", place, got)
		}
	}
}

// TestIndirect: types are held against each other by what they are, not by their numbers (P10.3).
func TestIndirect(t *testing.T) {
	kinds := []api.FuncType{{}, {Params: i32}, {Params: i64}, {Results: i32}, {Results: i64}, {Params: i32, Results: i32}, {Params: i32, Results: i64}, {Params: both}, {Params: []int{api.I64, api.I32}}, {Params: []int{api.I32, api.I32}}}
	m := single(nil, nil, nil)
	m.Types = append(slices.Clone(kinds), kinds...)
	m.Tables[0].Min = len(kinds)
	m.Funcs = nil
	for k, kind := range kinds {
		var l []in
		for _, result := range kind.Results {
			l = append(l, constantOf(result))
		}
		m.Funcs = append(m.Funcs, api.Func{Type: k, Body: l})
		m.Elems = append(m.Elems, api.Elem{Offset: c32(int64(k)), Funcs: []int{k}})
	}
	for k := range m.Types {
		for place := range kinds {
			f := api.Func{Type: 0}
			for _, kind := range m.Types[k].Params {
				f.Body = append(f.Body, constantOf(kind))
			}
			f.Body = append(f.Body, c32(int64(place)), at(0x11, k))
			for range m.Types[k].Results {
				f.Body = append(f.Body, op(0x1a))
			}
			n := m
			n.Funcs = append(slices.Clone(m.Funcs), f)
			want := api.StopTrap
			if place == k%len(kinds) {
				want = api.StopDone
			}
			x := fresh(t, n)
			x.Call(len(kinds), nil)
			s, e := x.Run(100)
			if s.Kind != want || want == api.StopTrap && s.Why != api.TrapIndirect || e != api.OK {
				t.Errorf("type %d at %d: %v, %d", k, place, s, e)
			}
		}
	}
}

func constantOf(kind int) in {
	if kind == api.I32 {
		return c32(1)
	}
	return c64(1)
}

// TestCall: which functions may be called, with what, and when (P10.2).
func TestCall(t *testing.T) {
	m := single(both, nil, nil, op(0x01))
	m.Imports = []api.Import{{Type: 0}, {Type: 0}}
	m.Funcs = append(m.Funcs, api.Func{Type: 0})
	x := fresh(t, m)
	for _, f := range []int{math.MinInt, -1, 0, 1, 2, 3, 4, 5, math.MaxInt} {
		want := api.ErrForm
		if f == 2 || f == 3 {
			want = api.OK
		}
		if e := x.Call(f, []int64{1, 2}); e != want {
			t.Errorf("Call(%d): %d", f, e)
		}
		if want == api.OK {
			x.Run(9)
		}
	}
	for _, c := range []struct {
		want api.Errno
		vals []int64
	}{
		{api.ErrForm, nil}, {api.ErrForm, []int64{1}}, {api.ErrForm, []int64{1, 2, 3}}, {api.OK, []int64{1, 2}},
		{api.OK, []int64{math.MaxInt32, math.MaxInt64}}, {api.OK, []int64{math.MinInt32, math.MinInt64}},
		{api.ErrForm, []int64{math.MaxInt32 + 1, 0}}, {api.ErrForm, []int64{math.MinInt32 - 1, 0}}, {api.ErrForm, []int64{1 << 32, 0}}, {api.ErrForm, []int64{math.MaxInt64, 0}}, {api.ErrForm, []int64{math.MinInt64, 0}},
	} {
		if e := x.Call(2, c.vals); e != c.want {
			t.Errorf("Call(2, %v): %d", c.vals, e)
		}
		if _, e := x.Run(9); e != c.want {
			t.Errorf("Run behind Call(2, %v): %d", c.vals, e)
		}
	}
	x.Call(2, []int64{1, 2})
	if e := x.Call(2, []int64{1, 2}); e != api.ErrForm {
		t.Errorf("Call behind Call: %d", e)
	}
	if s, e := x.Run(0); s.Kind != api.StopFuel || e != api.OK || x.Call(2, []int64{1, 2}) != api.ErrForm {
		t.Errorf("no fuel: %v, %d", s, e)
	}
	if s, e := x.Run(1); s.Kind != api.StopDone || e != api.OK || x.Call(2, []int64{1, 2}) != api.OK {
		t.Errorf("done: %v, %d", s, e)
	}
}

// TestLocals: parameters have their values, the other locals begin with 0, in each call (P10.2, P10.3).
func TestLocals(t *testing.T) {
	m := single(both, i64, []int{api.I64, api.I32}, at(0x20, 2), at(0x20, 1), op(0x7c), at(0x22, 2), at(0x20, 3), op(0xac), op(0x7c), c32(1000), at(0x21, 3), c64(5000), at(0x21, 1), at(0x20, 0), op(0xac), op(0x7c))
	x := fresh(t, m)
	for range 3 {
		if got := outcome(t, x, 0, -7, 1<<40); got != "1 0 0 [1099511627769] for 14" {
			t.Errorf("%s", got)
		}
	}
	wide := single(slices.Repeat(both, 20), i64, slices.Repeat(both, 12), at(0x20, 39), at(0x20, 63), op(0x7c))
	vals := make([]int64, 40)
	for k := range vals {
		vals[k] = int64(k)
	}
	hold(t, "1 0 0 [39] for 3", wide, vals...)
}

// TestRunForms: when Run may be, and with what (P10.2).
func TestRunForms(t *testing.T) {
	m := single(nil, i32, nil, nest(0x03, api.I32, at(0x0c, 0)))
	x := fresh(t, m)
	refused := func(when string, fuels ...int) {
		t.Helper()
		for _, fuel := range fuels {
			was := x.Spent()
			if s, e := x.Run(fuel); e != api.ErrForm || show(s) != "0 0 0 []" || x.Spent() != was {
				t.Errorf("%s: Run(%d): %v, %d", when, fuel, s, e)
			}
		}
	}
	refused("at first", 0, 1, api.MaxFuel)
	x.Call(0, nil)
	refused("called", math.MinInt, -2, -1, api.MaxFuel+1, api.MaxFuel+2, math.MaxInt)
	for _, fuel := range []int{0, 1, 2, 3, api.MaxFuel - 1, api.MaxFuel} {
		was := x.Spent()
		if s, e := x.Run(fuel); show(s) != "4 0 0 []" || e != api.OK || x.Spent() != was+fuel {
			t.Errorf("Run(%d): %v, %d, spent %d", fuel, s, e, x.Spent()-was)
		}
	}
	x = fresh(t, single(nil, nil, nil, op(0x00)))
	x.Call(0, nil)
	x.Run(1)
	refused("trapped", 0, 1, -1)
	x = fresh(t, single(nil, nil, nil))
	x.Call(0, nil)
	x.Run(0)
	refused("done", 0, 1, -1)
	x = fresh(t, single(nil, nil, nil, at(0x10, 0)))
	x.Call(0, nil)
	x.Run(9)
	refused("too deep", 0, 1, -1)
}

// importing tells a module whose function 2 calls the function 0 or 1, both imported.
func importing(kind api.FuncType, l ...in) api.Module {
	m := single(nil, i64, nil, l...)
	m.Types = append(m.Types, kind, api.FuncType{})
	m.Imports = []api.Import{{Type: 2}, {Type: 1}}
	return m
}

// TestHost: imported functions: what is told of them, what Answer takes, and what goes on behind it (P10.2).
func TestHost(t *testing.T) {
	m := importing(api.FuncType{Params: []int{api.I64, api.I32, api.I32}, Results: i32}, at(0x10, 0), c64(100), c64(-1), c32(-2), c32(3), at(0x10, 1), op(0xac), op(0x7c))
	x := fresh(t, m)
	if x.Answer(nil) != api.ErrForm || x.Answer([]int64{1}) != api.ErrForm {
		t.Error("Answer of nothing")
	}
	x.Call(2, nil)
	if x.Answer(nil) != api.ErrForm {
		t.Error("Answer ahead of Run")
	}
	if s, e := x.Run(1); show(s) != "2 0 0 []" || e != api.OK || x.Spent() != 1 {
		t.Errorf("first: %v, %d", s, e)
	}
	if x.Answer([]int64{0}) != api.ErrForm || x.Call(2, nil) != api.ErrForm {
		t.Error("it waits for nothing")
	}
	if s, e := x.Run(1); show(s) != "0 0 0 []" || e != api.ErrForm {
		t.Errorf("Run, while it waits: %v, %d", s, e)
	}
	if x.Answer([]int64{}) != api.OK || x.Answer(nil) != api.ErrForm || x.Call(2, nil) != api.ErrForm {
		t.Error("Answer of nothing is taken once")
	}
	if s, _ := x.Run(4); show(s) != "4 0 0 []" || x.Answer(nil) != api.ErrForm {
		t.Errorf("%v", s)
	}
	if s, _ := x.Run(api.MaxFuel); show(s) != "2 1 0 [-1 -2 3]" || x.Spent() != 6 {
		t.Errorf("second: %v, %d", s, x.Spent())
	}
	for _, vals := range [][]int64{nil, {}, {1, 2}, {math.MaxInt32 + 1}, {math.MinInt32 - 1}, {1 << 32}, {math.MinInt64}} {
		if e := x.Answer(vals); e != api.ErrForm {
			t.Errorf("Answer(%v): %d", vals, e)
		}
	}
	if x.Answer([]int64{math.MinInt32}) != api.OK || x.Answer([]int64{1}) != api.ErrForm {
		t.Error("Answer of one")
	}
	if s, _ := x.Run(2); show(s) != "1 0 0 [-2147483548]" || x.Spent() != 8 {
		t.Errorf("third: %v, %d", s, x.Spent())
	}
	if x.Answer([]int64{1}) != api.ErrForm {
		t.Error("Answer behind the end")
	}
}

// TestHostLast: a function that ends with a call of an imported one returns without fuel; numbers of 64 bits are answered whole (P10.2).
func TestHostLast(t *testing.T) {
	x := fresh(t, importing(api.FuncType{Results: i64}, nest(0x02, api.I64, at(0x10, 1))))
	for _, v := range []int64{math.MinInt64, -1, 0, math.MaxInt64} {
		x.Call(2, nil)
		if s, _ := x.Run(2); show(s) != "2 1 0 []" {
			t.Errorf("%v", s)
		}
		if e := x.Answer([]int64{v}); e != api.OK {
			t.Errorf("Answer(%d): %d", v, e)
		}
		if s, e := x.Run(0); show(s) != fmt.Sprintf("1 0 0 [%d]", v) || e != api.OK {
			t.Errorf("%v, %d", s, e)
		}
	}
}

// TestHostIndirect: an imported function may stand in the table (P10.1 to P10.3).
func TestHostIndirect(t *testing.T) {
	m := importing(api.FuncType{Params: i32, Results: i64}, c32(9), c32(2), at(0x11, 1))
	m.Elems = []api.Elem{{Offset: c32(1), Funcs: []int{0, 1}}}
	x := fresh(t, m)
	x.Call(2, nil)
	if s, _ := x.Run(3); show(s) != "2 1 0 [9]" || x.Answer([]int64{-4}) != api.OK {
		t.Errorf("%v", s)
	}
	if s, _ := x.Run(0); show(s) != "1 0 0 [-4]" {
		t.Errorf("%v", s)
	}
	m.Elems[0].Funcs[1] = 0
	hold(t, "3 0 6 [] for 3", api.Module{Types: m.Types, Funcs: m.Funcs, Tables: m.Tables, Elems: []api.Elem{{Offset: c32(2), Funcs: []int{0}}}, Start: -1})
	x = fresh(t, m)
	if got := outcome(t, x, 2); got != "3 0 6 [] for 3" {
		t.Errorf("%s", got)
	}
}

// TestDepth: as many calls within one another as the caps say, an imported one too, and not one more (P10.2).
func TestDepth(t *testing.T) {
	down := []in{at(0x20, 0), nest(0x04, api.None, at(0x20, 0), c32(1), op(0x6b), at(0x10, 1)), at(0x20, 0), c32(-1), op(0x46), nest(0x04, api.None, at(0x10, 0))}
	m := single(i32, nil, nil, down...)
	m.Types = append(m.Types, api.FuncType{})
	m.Imports = []api.Import{{Type: 1}}
	down[1].Body[3] = at(0x10, 1)
	for depth := 1; depth <= 64; depth++ {
		x, e := New(m, api.Caps{Pages: 1, Depth: depth})
		if e != api.OK {
			t.Fatalf("%d", e)
		}
		if got, want := outcome(t, x, 1, int64(depth-1)), fmt.Sprintf("1 0 0 [] for %d", 6*depth+4*(depth-1)); got != want {
			t.Errorf("%d calls of %d: %s, not %s", depth, depth, got, want)
		}
		if got, want := outcome(t, x, 1, int64(depth)), fmt.Sprintf("5 0 0 [] for %d", 6*depth); got != want {
			t.Errorf("%d calls of %d: %s, not %s", depth+1, depth, got, want)
		}
		for range 2 {
			x.Call(1, []int64{int64(depth - 1)})
			if s, _ := x.Run(api.MaxFuel); show(s) != "1 0 0 []" {
				t.Errorf("behind it: %v", s)
			}
		}
	}
}

// TestHostDepth: an imported function counts as a call, directly and by the table (P10.2).
func TestHostDepth(t *testing.T) {
	for _, l := range [][]in{{at(0x10, 0)}, {c32(0), at(0x11, 0)}} {
		m := single(nil, nil, nil, at(0x10, 2))
		m.Imports = []api.Import{{Type: 0}}
		m.Funcs = append(m.Funcs, api.Func{Body: l})
		m.Elems = []api.Elem{{Offset: c32(0), Funcs: []int{0}}}
		for depth := 1; depth <= 4; depth++ {
			x, _ := New(m, api.Caps{Pages: 1, Depth: depth})
			x.Call(1, nil)
			s, _ := x.Run(99)
			want, spent := "2 0 0 []", 1+len(l)
			if depth < 3 {
				want = "5 0 0 []"
			}
			if depth == 1 {
				spent = 1
			}
			if show(s) != want || x.Spent() != spent {
				t.Errorf("%v with %d: %v for %d", l, depth, s, x.Spent())
			}
		}
	}
}

// TestFuel: with less fuel than a function has instructions it stops ahead of the next one; ends need none (P10.2).
func TestFuel(t *testing.T) {
	for _, c := range []struct {
		cost int
		l    []in
	}{
		{0, nil},
		{1, []in{op(0x01)}},
		{1, []in{nest(0x02, api.None)}},
		{1, []in{nest(0x03, api.None)}},
		{5, []in{nest(0x02, api.None, nest(0x03, api.None, nest(0x02, api.None, nest(0x02, api.None)), nest(0x02, api.None)))}},
		{2, []in{c32(0), nest(0x04, api.None, op(0x01))}},
		{3, []in{c32(1), nest(0x04, api.None, op(0x01))}},
		{3, []in{c32(0), {Op: 0x04, Type: api.None, Else: []in{op(0x01)}}}},
		{2, []in{c32(1), {Op: 0x04, Type: api.None, Else: []in{op(0x01)}}}},
		{2, []in{nest(0x02, api.None, at(0x0c, 0), op(0x01))}},
		{4, []in{nest(0x02, api.None, nest(0x02, api.None, at(0x0c, 1), op(0x01)), op(0x01)), op(0x01)}},
		{3, []in{c32(7), op(0x1a), op(0x0f), op(0x01)}},
		{1, []in{at(0x0c, 0), op(0x01)}},
	} {
		for fuel := 0; fuel <= c.cost+1; fuel++ {
			x := fresh(t, single(nil, nil, nil, c.l...))
			x.Call(0, nil)
			want := "1 0 0 []"
			if fuel < c.cost {
				want = "4 0 0 []"
			}
			s, e := x.Run(fuel)
			if show(s) != want || e != api.OK || x.Spent() != min(fuel, c.cost) {
				t.Errorf("%v with %d: %v, %d, spent %d", c.l, fuel, s, e, x.Spent())
			}
			if fuel >= c.cost {
				continue
			}
			if s, e := x.Run(0); show(s) != want || e != api.OK {
				t.Errorf("%v with nothing behind %d: %v, %d", c.l, fuel, s, e)
			}
			if s, e := x.Run(c.cost - fuel); show(s) != "1 0 0 []" || e != api.OK || x.Spent() != c.cost {
				t.Errorf("%v with the rest behind %d: %v, %d, spent %d", c.l, fuel, s, e, x.Spent())
			}
		}
	}
}

// TestPaid: an instruction that traps, goes too deep or calls outside is paid for ahead of it (P10.2).
func TestPaid(t *testing.T) {
	m := single(nil, nil, nil, op(0x01), op(0x00))
	m.Imports = []api.Import{{Type: 0}}
	m.Funcs = append(m.Funcs, api.Func{Body: []in{op(0x01), at(0x10, 0)}}, api.Func{Body: []in{op(0x01), at(0x10, 3)}})
	for _, c := range []struct {
		f, depth int
		want     string
	}{{1, 2, "3 0 1 []"}, {2, 2, "2 0 0 []"}, {3, 1, "5 0 0 []"}} {
		x, _ := New(m, api.Caps{Pages: 1, Depth: c.depth})
		x.Call(c.f, nil)
		for _, fuel := range []int{1, 0} {
			if s, e := x.Run(fuel); show(s) != "4 0 0 []" || e != api.OK || x.Spent() != 1 {
				t.Errorf("%d: %v, %d, spent %d", c.f, s, e, x.Spent())
			}
		}
		if s, e := x.Run(1); show(s) != c.want || e != api.OK || x.Spent() != 2 {
			t.Errorf("%d: %v, %d, spent %d", c.f, s, e, x.Spent())
		}
	}
}

// TestAgain: behind a trap, or too many calls, it does nothing, what was written stays, and it may be called again (P10.2, P10.4).
func TestAgain(t *testing.T) {
	m := single(i32, i32, nil, c32(0), at(0x20, 0), in{Op: 0x36}, at(0x20, 0), at(0x24, 0), c64(1), c64(2), at(0x20, 0), nest(0x04, api.None, c32(5), op(0x00)), op(0x1a), op(0x1a), c32(0), in{Op: 0x28})
	m.Funcs = append(m.Funcs, api.Func{Body: []in{c64(3), at(0x20, 0), at(0x24, 0), at(0x20, 0), at(0x10, 1), at(0x21, 0), op(0x1a), at(0x20, 0)}})
	x := fresh(t, m)
	for k, c := range []struct {
		f    int
		v    int64
		want string
	}{{0, 0, "1 0 0 [0] for 13"}, {0, 9, "3 0 1 [] for 11"}, {0, 0, "1 0 0 [0] for 13"}, {1, 8, "5 0 0 [] for 25"}, {0, 7, "3 0 1 [] for 11"}, {1, 6, "5 0 0 [] for 25"}, {0, 0, "1 0 0 [0] for 13"}} {
		if got := outcome(t, x, c.f, c.v); got != c.want {
			t.Errorf("%d: %s", k, got)
		}
		if got := x.Globals()[0]; got != c.v {
			t.Errorf("%d: global %d", k, got)
		}
		if v, _ := x.Memory().Load(0, 0, 4); c.f == 0 && v != uint64(c.v) {
			t.Errorf("%d: memory %d", k, v)
		}
	}
	if x.Spent() != 3*13+2*11+2*25 {
		t.Errorf("spent %d", x.Spent())
	}
}
