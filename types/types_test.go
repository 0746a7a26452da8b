package types

import (
	"fmt"
	"math"
	"math/rand"
	"slices"
	"strings"
	"testing"

	"gangway/api"
)

type in = api.Instr

func c32(v int64) in { return in{Op: 0x41, Val: v} }

func c64(v int64) in { return in{Op: 0x42, Val: v} }

func global(n int) in { return in{Op: 0x23, Index: n} }

// The kinds that imports and exports name.
const (
	aFunc = iota
	aTable
	aMemory
	aGlobal
)

// full is a valid module with something of everything; its tables and memories are its own.
// Functions: 0, 1, 2 imported, of types 1, 0, 4; own: 3 to 6, of types 1, 0, 2, 3. Globals: 0 to 3 imported, own: 4 to 7.
func full() api.Module {
	return api.Module{
		Types: []api.FuncType{
			{},
			{Params: []int{api.I32}, Results: []int{api.I64}},
			{Params: []int{api.I64}},
			{Results: []int{api.I32}},
			{Params: []int{api.I32, api.I64}, Results: []int{api.I32}},
		},
		Imports: []api.Import{
			{Module: "m", Name: "f", Kind: aFunc, Type: 1},
			{Module: "m", Name: "g", Kind: aGlobal, Type: api.I32},
			{Module: "m", Name: "f", Kind: aFunc, Type: 0},
			{Module: "", Name: "v", Kind: aGlobal, Type: api.I64, Mut: true},
			{Module: "", Name: "w", Kind: aGlobal, Type: api.I64},
			{Module: "n", Name: "h", Kind: aFunc, Type: 4},
			{Module: "n", Name: "x", Kind: aGlobal, Type: api.I32, Mut: true},
		},
		Funcs: []api.Func{
			{Type: 1, Body: []in{{Op: 0x20}, {Op: 0xac}}},
			{Type: 0, Locals: []int{api.I64, api.I32}, Body: []in{c32(1), {Op: 0x10}, {Op: 0x21}}},
			{Type: 2, Body: []in{c32(0), {Op: 0x20}, {Op: 0x37, Align: 3}, {Op: 0x20}, {Op: 0x24, Index: 6}}},
			{Type: 3, Body: []in{c32(2), c64(3), c32(1), {Op: 0x11, Index: 4}}},
		},
		Tables:   []api.Limits{{Min: 3, Max: 3}},
		Memories: []api.Limits{{Min: 1, Max: 65536}},
		Globals: []api.Global{
			{Type: api.I32, Init: global(0)},
			{Type: api.I64, Init: c64(7)},
			{Type: api.I64, Mut: true, Init: global(2)},
			{Type: api.I32, Mut: true, Init: c32(-9)},
		},
		Exports: []api.Export{
			{Name: "a", Kind: aFunc, Index: 6},
			{Name: "b", Kind: aTable},
			{Name: "c", Kind: aMemory},
			{Name: "", Kind: aGlobal, Index: 7},
			{Name: "A", Kind: aFunc, Index: 6},
			{Name: "aa", Kind: aFunc},
		},
		Start: 4,
		Elems: []api.Elem{
			{Offset: global(0), Funcs: []int{0, 6, 6, 3}},
			{Offset: c32(1)},
		},
		Datas: []api.Data{
			{Offset: c32(1 << 20), Bytes: []byte("x")},
			{Offset: global(0)},
		},
	}
}

// importing is full with its table and its memory imported.
func importing() api.Module {
	m := full()
	m.Tables, m.Memories = nil, nil
	m.Imports = append(m.Imports, api.Import{Kind: aTable, Lim: api.Limits{Min: 2, Max: -1}}, api.Import{Kind: aMemory, Lim: api.Limits{Min: 1, Max: -1}})
	return m
}

// bare is full without table and memory, and all that asks for them.
func bare() api.Module {
	m := full()
	m.Tables, m.Memories, m.Elems, m.Datas = nil, nil, nil, nil
	m.Exports = slices.DeleteFunc(m.Exports, func(x api.Export) bool { return x.Kind == aTable || x.Kind == aMemory })
	m.Funcs[2].Body = nil
	m.Funcs[3].Body = []in{c32(0)}
	return m
}

type change = func(m *api.Module)

// hold: each of these modules, with that one change, is told that, and by the model, too.
func hold(t *testing.T, want api.Errno, fresh func() api.Module, changes ...change) {
	t.Helper()
	for k, f := range changes {
		m := fresh()
		f(&m)
		if e := Check(m); e != want || wanted(m) != want {
			t.Errorf("change %d: %d, by the model %d (%v), not %d", k, e, wanted(m), broken(m), want)
		}
	}
}

func nothing(m *api.Module) {}

// TestValid: modules that are valid as they stand.
func TestValid(t *testing.T) {
	for _, fresh := range []func() api.Module{full, importing, bare} {
		hold(t, api.OK, fresh, nothing)
	}
	if e := Check(api.Module{Start: -1}); e != api.OK {
		t.Errorf("%d", e)
	}
}

// TestExample tells the chapter's.
func TestExample(t *testing.T) {
	m := api.Module{Start: -1, Types: []api.FuncType{{}}, Funcs: []api.Func{{}, {}}, Exports: []api.Export{{Name: "x"}, {Name: "x", Index: 1}}}
	if e := Check(m); e != api.ErrType {
		t.Errorf("%d", e)
	}
}

// TestForm: a module that may not be is told so by all, whatever else is wrong.
func TestForm(t *testing.T) {
	loop := []in{{Op: 0x02, Type: api.None}, {Op: 0x02, Type: api.None}}
	loop[0].Body, loop[1].Body = loop, loop
	for k, f := range []change{
		func(m *api.Module) { m.Start = -2 },
		func(m *api.Module) { m.Types[0].Params = []int{api.None} },
		func(m *api.Module) { m.Types[1].Results = []int{api.I32, api.I32} },
		func(m *api.Module) { m.Types = slices.Repeat(m.Types[:1], api.MaxFuncs+1) },
		func(m *api.Module) { m.Imports[0].Name = "\xff" },
		func(m *api.Module) { m.Imports[0].Kind = 4 },
		func(m *api.Module) { m.Imports[1].Type = 0 },
		func(m *api.Module) { m.Imports[0].Mut = true },
		func(m *api.Module) { m.Funcs[0].Type = -1 },
		func(m *api.Module) { m.Funcs[0].Type = 1 << 32 },
		func(m *api.Module) { m.Funcs[0].Locals = slices.Repeat([]int{api.I32}, api.MaxLocals+1) },
		func(m *api.Module) { m.Funcs[0].Body = []in{{Op: 0x0b}} },
		func(m *api.Module) { m.Funcs[0].Body = loop },
		func(m *api.Module) { m.Funcs[0].Body = slices.Repeat([]in{{Op: 0x01}}, api.MaxBytes) },
		func(m *api.Module) { m.Tables[0].Min = -1 },
		func(m *api.Module) { m.Memories[0].Max = -2 },
		func(m *api.Module) { m.Memories[0].Max = 1 << 32 },
		func(m *api.Module) { m.Globals[0].Type = 0 },
		func(m *api.Module) { m.Globals[0].Init = in{} },
		func(m *api.Module) { m.Globals[0].Init = in{Op: 0x01} },
		func(m *api.Module) { m.Globals[0].Init = in{Op: 0x41, Val: 1 << 31} },
		func(m *api.Module) { m.Globals[0].Init.Index = -1 },
		func(m *api.Module) { m.Exports[0].Name = "\xed\xa0\x80" },
		func(m *api.Module) { m.Exports[0].Kind = -1 },
		func(m *api.Module) { m.Exports[0].Index = -1 },
		func(m *api.Module) { m.Elems[0].Funcs[0] = -1 },
		func(m *api.Module) { m.Elems[0].Table = -1 },
		func(m *api.Module) { m.Elems[0].Offset = in{Op: 0x6a} },
		func(m *api.Module) { m.Datas[0].Memory = 1 << 32 },
		func(m *api.Module) { m.Datas[0].Bytes = make([]byte, api.MaxBytes) },
	} {
		for _, worse := range []change{nothing, func(m *api.Module) { m.Imports[5].Type = 99; m.Exports[1].Name = "c" }} {
			m := full()
			worse(&m)
			f(&m)
			funcs, a := Funcs(m)
			globals, b := Globals(m)
			if e := Check(m); e != api.ErrForm || a != api.ErrForm || b != api.ErrForm || funcs != nil || globals != nil {
				t.Errorf("change %d: %d, %v, %d, %v, %d", k, e, funcs, a, globals, b)
			}
		}
	}
}

// TestTypes: each function's Type is one of Types.
func TestTypes(t *testing.T) {
	hold(t, api.ErrType, full,
		func(m *api.Module) { m.Imports[0].Type = 5 },
		func(m *api.Module) { m.Imports[5].Type = 5 },
		func(m *api.Module) { m.Imports[2].Type = math.MaxUint32 },
		func(m *api.Module) { m.Funcs[0].Type = 5 },
		func(m *api.Module) { m.Funcs[3].Type = math.MaxUint32 },
		func(m *api.Module) { m.Types = m.Types[:4] },
		func(m *api.Module) { m.Types = nil },
	)
	for _, m := range []api.Module{
		{Start: -1, Funcs: []api.Func{{}}},
		{Start: -1, Imports: []api.Import{{}}},
		{Start: 0, Funcs: []api.Func{{}}},
	} {
		if e := Check(m); e != api.ErrType {
			t.Errorf("%d", e)
		}
	}
}

// TestLimits: one table, one memory, imported or not; Min is not above Max; a memory's are at most 65536.
func TestLimits(t *testing.T) {
	limits := func(l api.Limits) (table, memory []change) {
		return []change{func(m *api.Module) { m.Tables[0] = l }}, []change{func(m *api.Module) { m.Memories[0] = l }}
	}
	for _, c := range []struct {
		min, max      int
		table, memory api.Errno
	}{
		{0, 0, api.OK, api.OK},
		{0, -1, api.OK, api.OK},
		{5, 5, api.OK, api.OK},
		{5, 6, api.OK, api.OK},
		{6, 5, api.ErrType, api.ErrType},
		{1, 0, api.ErrType, api.ErrType},
		{65536, 65536, api.OK, api.OK},
		{65536, -1, api.OK, api.OK},
		{0, 65536, api.OK, api.OK},
		{0, 65537, api.OK, api.ErrType},
		{65537, -1, api.OK, api.ErrType},
		{65537, 65537, api.OK, api.ErrType},
		{65537, 65536, api.ErrType, api.ErrType},
		{0, math.MaxUint32, api.OK, api.ErrType},
		{math.MaxUint32, -1, api.OK, api.ErrType},
		{math.MaxUint32, math.MaxUint32, api.OK, api.ErrType},
		{math.MaxUint32, 0, api.ErrType, api.ErrType},
	} {
		l := api.Limits{Min: c.min, Max: c.max}
		table, memory := limits(l)
		hold(t, c.table, full, table...)
		hold(t, c.memory, full, memory...)
		hold(t, c.table, importing, func(m *api.Module) { m.Imports[7].Lim = l })
		hold(t, c.memory, importing, func(m *api.Module) { m.Imports[8].Lim = l })
	}
	more := func(kind int) change {
		return func(m *api.Module) {
			m.Imports = append(m.Imports, api.Import{Kind: kind, Lim: api.Limits{Max: -1}})
		}
	}
	for _, fresh := range []func() api.Module{full, importing} {
		hold(t, api.ErrType, fresh,
			more(aTable),
			more(aMemory),
			func(m *api.Module) {
				m.Tables = append(m.Tables, api.Limits{})
				m.Imports = append(m.Imports, api.Import{Kind: aTable})
			},
			func(m *api.Module) { m.Tables = append(m.Tables, api.Limits{}, api.Limits{}) },
			func(m *api.Module) { m.Memories = append(m.Memories, api.Limits{}, api.Limits{}) },
		)
	}
	hold(t, api.ErrType, full,
		func(m *api.Module) { m.Tables = append(m.Tables, api.Limits{}) },
		func(m *api.Module) { m.Memories = append(m.Memories, api.Limits{}) },
	)
	hold(t, api.OK, bare, more(aTable), more(aMemory),
		func(m *api.Module) { m.Tables = []api.Limits{{}} },
		func(m *api.Module) { m.Memories = []api.Limits{{}} },
	)
}

// constants tells which constants there are of which type among full's globals: none where 0.
func constants() map[int][]in {
	return map[int][]in{
		api.I32: {c32(0), c32(math.MinInt32), c32(math.MaxInt32), global(0)},
		api.I64: {c64(0), c64(math.MinInt64), c64(math.MaxInt64), global(2)},
		0:       {global(1), global(3), global(4), global(5), global(6), global(7), global(8), global(math.MaxUint32)},
	}
}

// TestConstants: what globals begin with, and where parts of table and memory stand: of imported globals those that are not Mut.
func TestConstants(t *testing.T) {
	for kind, l := range constants() {
		for _, i := range l {
			for own, g := range full().Globals {
				want := api.ErrType
				if g.Type == kind {
					want = api.OK
				}
				hold(t, want, full, func(m *api.Module) { m.Globals[own].Init = i })
				hold(t, want, importing, func(m *api.Module) { m.Globals[own].Init = i })
			}
			want := api.ErrType
			if kind == api.I32 {
				want = api.OK
			}
			for k := range 2 {
				hold(t, want, full, func(m *api.Module) { m.Elems[k].Offset = i }, func(m *api.Module) { m.Datas[k].Offset = i })
			}
		}
	}
}

// TestExports: unlike names, and an Index that there is of their kind.
func TestExports(t *testing.T) {
	for kind, n := range []int{7, 1, 1, 8} {
		for _, k := range []int{0, n - 1} {
			hold(t, api.OK, full, func(m *api.Module) { m.Exports = []api.Export{{Name: "z", Kind: kind, Index: k}} })
			hold(t, api.OK, importing, func(m *api.Module) { m.Exports = []api.Export{{Name: "z", Kind: kind, Index: k}} })
		}
		for _, k := range []int{n, n + 1, 100, math.MaxUint32} {
			hold(t, api.ErrType, full, func(m *api.Module) { m.Exports = []api.Export{{Name: "z", Kind: kind, Index: k}} })
			hold(t, api.ErrType, full, func(m *api.Module) { m.Exports = append(m.Exports, api.Export{Name: "z", Kind: kind, Index: k}) })
		}
	}
	for _, kind := range []int{aTable, aMemory} {
		hold(t, api.ErrType, bare, func(m *api.Module) { m.Exports = []api.Export{{Kind: kind}} })
	}
	for a := range full().Exports {
		for b := range a {
			hold(t, api.ErrType, full, func(m *api.Module) { m.Exports[a].Name = m.Exports[b].Name })
		}
	}
	hold(t, api.OK, full,
		func(m *api.Module) { m.Exports[0].Name = "a\x00" },
		func(m *api.Module) { m.Exports[0].Name = "é" },
		func(m *api.Module) { m.Exports[0].Name, m.Exports[1].Name = "é", "e\u0301" },
		func(m *api.Module) { m.Exports = nil },
	)
	hold(t, api.ErrType, full, func(m *api.Module) { m.Exports[0].Name, m.Exports[5].Name = "é", "é" })
}

// TestStart: none, or a function of no parameters and no result.
func TestStart(t *testing.T) {
	for number, want := range []api.Errno{api.ErrType, api.OK, api.ErrType, api.ErrType, api.OK, api.ErrType, api.ErrType, api.ErrType, api.ErrType} {
		hold(t, want, full, func(m *api.Module) { m.Start = number })
	}
	hold(t, api.OK, full, func(m *api.Module) { m.Start = -1 })
	hold(t, api.ErrType, full, func(m *api.Module) { m.Start = math.MaxUint32 })
	if e := Check(api.Module{}); e != api.ErrType { // Start 0, and no function
		t.Errorf("%d", e)
	}
}

// TestElems: table 0, which there is, and functions that there are.
func TestElems(t *testing.T) {
	hold(t, api.ErrType, full,
		func(m *api.Module) { m.Elems[0].Table = 1 },
		func(m *api.Module) { m.Elems[1].Table = math.MaxUint32 },
		func(m *api.Module) { m.Elems[0].Funcs[3] = 7 },
		func(m *api.Module) { m.Elems[0].Funcs[0] = math.MaxUint32 },
		func(m *api.Module) { m.Elems[1].Funcs = []int{0, 8} },
	)
	hold(t, api.ErrType, bare, func(m *api.Module) { m.Elems = []api.Elem{{Offset: c32(0)}} })
	hold(t, api.ErrType, bare, func(m *api.Module) { m.Elems = []api.Elem{{Offset: c32(0)}}; m.Memories = []api.Limits{{}} })
	hold(t, api.OK, bare, func(m *api.Module) { m.Elems = []api.Elem{{Offset: c32(0)}}; m.Tables = []api.Limits{{}} })
	hold(t, api.OK, importing, func(m *api.Module) { m.Elems[1].Funcs = []int{6} })
}

// TestDatas: memory 0, which there is; how long it is is not asked.
func TestDatas(t *testing.T) {
	hold(t, api.ErrType, full,
		func(m *api.Module) { m.Datas[0].Memory = 1 },
		func(m *api.Module) { m.Datas[1].Memory = math.MaxUint32 },
	)
	hold(t, api.ErrType, bare, func(m *api.Module) { m.Datas = []api.Data{{Offset: c32(0)}} })
	hold(t, api.ErrType, bare, func(m *api.Module) { m.Datas = []api.Data{{Offset: c32(0)}}; m.Tables = []api.Limits{{}} })
	hold(t, api.OK, bare, func(m *api.Module) {
		m.Datas = []api.Data{{Offset: c32(-1), Bytes: []byte("xyz")}}
		m.Memories = []api.Limits{{}}
	})
}

// TestBodies: bodies are asked with what stands around them: all functions, types, globals, the table, the memory.
func TestBodies(t *testing.T) {
	bodyOf := func(k int, l ...in) change { return func(m *api.Module) { m.Funcs[k].Body = l } }
	drop := in{Op: 0x1a}
	hold(t, api.OK, full,
		bodyOf(1, c32(0), in{Op: 0x10, Index: 3}, in{Op: 0x21}),
		bodyOf(1, c32(0), c64(0), in{Op: 0x10, Index: 2}, in{Op: 0x21, Index: 1}),
		bodyOf(1, in{Op: 0x10, Index: 6}, in{Op: 0x21, Index: 1}),
		bodyOf(1, in{Op: 0x10, Index: 4}),
		bodyOf(1, c64(1), c32(0), in{Op: 0x11, Index: 2}),
		bodyOf(1, in{Op: 0x23, Index: 7}, in{Op: 0x24, Index: 3}),
		bodyOf(1, in{Op: 0x23, Index: 0}, in{Op: 0x24, Index: 7}),
		bodyOf(1, in{Op: 0x3f}, drop),
		bodyOf(2, in{Op: 0x20}, in{Op: 0x24, Index: 1}),
		bodyOf(3, in{Op: 0x00}),
		bodyOf(3, in{Op: 0x23, Index: 4}),
	)
	hold(t, api.ErrType, full,
		bodyOf(0),
		bodyOf(3),
		bodyOf(3, c64(0)),
		bodyOf(1, c32(0)),
		bodyOf(1, in{Op: 0x10, Index: 7}),
		bodyOf(1, in{Op: 0x10, Index: 3}),
		bodyOf(1, in{Op: 0x11, Index: 5}),
		bodyOf(1, in{Op: 0x23, Index: 8}, drop),
		bodyOf(1, in{Op: 0x23, Index: 0}, in{Op: 0x24, Index: 0}),
		bodyOf(1, in{Op: 0x23, Index: 4}, in{Op: 0x24, Index: 4}),
		bodyOf(1, in{Op: 0x20, Index: 2}, drop),
		bodyOf(2, in{Op: 0x20}, in{Op: 0x24, Index: 7}),
	)
	hold(t, api.ErrType, bare, bodyOf(1, in{Op: 0x3f}, drop), bodyOf(1, c32(0), in{Op: 0x11}))
	hold(t, api.OK, importing, bodyOf(1, in{Op: 0x3f}, drop), bodyOf(1, c32(0), in{Op: 0x11}))
	for locals := range api.MaxLocals + 1 {
		want := api.OK
		if locals+1 > api.MaxLocals {
			want = api.ErrType
		}
		hold(t, want, full, func(m *api.Module) { m.Funcs[0].Locals = slices.Repeat([]int{api.I32}, locals) })
		hold(t, api.OK, bare, func(m *api.Module) { m.Funcs[3].Locals = slices.Repeat([]int{api.I32}, locals) })
	}
	long := api.FuncType{Params: slices.Repeat([]int{api.I64}, api.MaxLocals+1)}
	hold(t, api.OK, full, func(m *api.Module) {
		m.Types = append(m.Types, long)
		m.Imports = append(m.Imports, api.Import{Type: 5})
		m.Funcs[1].Body = nil
		m.Start = -1
		m.Exports, m.Elems = nil, nil
	})
	hold(t, api.ErrType, full, func(m *api.Module) { m.Types = append(m.Types, long); m.Funcs = append(m.Funcs, api.Func{Type: 5}) })
}

// TestMany: as many as there may be of each, in good time.
func TestMany(t *testing.T) {
	m := api.Module{Start: -1, Memories: []api.Limits{{}}, Tables: []api.Limits{{}}}
	for k := range api.MaxFuncs {
		m.Types = append(m.Types, api.FuncType{Params: slices.Repeat([]int{api.I32}, 40)})
		m.Imports = append(m.Imports, api.Import{Type: k})
		m.Funcs = append(m.Funcs, api.Func{Type: k, Body: append(slices.Repeat([]in{{Op: 0x20}}, 40), in{Op: 0x10, Index: 2*api.MaxFuncs - 1 - k})})
		m.Globals = append(m.Globals, api.Global{Type: api.I64, Init: c64(int64(k))})
		m.Exports = append(m.Exports, api.Export{Name: fmt.Sprint(k), Index: 2 * k})
		m.Elems = append(m.Elems, api.Elem{Offset: c32(0), Funcs: slices.Repeat([]int{2*api.MaxFuncs - 1}, 20)})
		m.Datas = append(m.Datas, api.Data{Offset: c32(0)})
	}
	if e := Check(m); e != api.OK {
		t.Errorf("%d", e)
	}
	m.Exports[api.MaxFuncs-1].Index = 2 * api.MaxFuncs
	if e := Check(m); e != api.ErrType {
		t.Errorf("%d", e)
	}
}

// TestFuncs: each function's type, in order (P7.2).
func TestFuncs(t *testing.T) {
	l, e := Funcs(full())
	want := "[{[127] [126]} {[] []} {[127 126] [127]} {[127] [126]} {[] []} {[126] []} {[] [127]}]"
	if fmt.Sprint(l) != want || e != api.OK {
		t.Errorf("%v, %d", l, e)
	}
	for k, f := range []change{
		func(m *api.Module) { m.Imports[5].Type = 5 },
		func(m *api.Module) { m.Funcs[0].Type = 5 },
		func(m *api.Module) { m.Funcs[3].Type = math.MaxUint32 },
		func(m *api.Module) { m.Types = m.Types[:4] },
	} {
		m := full()
		f(&m)
		if l, e := Funcs(m); l != nil || e != api.ErrType {
			t.Errorf("change %d: %v, %d", k, l, e)
		}
		if l, e := Globals(m); len(l) != 8 || e != api.OK {
			t.Errorf("change %d: %v, %d", k, l, e)
		}
	}
	for k, f := range []change{ // Of the other points nothing is asked.
		func(m *api.Module) { m.Tables = append(m.Tables, api.Limits{Min: 1}) },
		func(m *api.Module) { m.Memories[0].Min = 65537 },
		func(m *api.Module) { m.Globals[0].Init = c64(0) },
		func(m *api.Module) { m.Exports[0] = m.Exports[1] },
		func(m *api.Module) { m.Exports[0].Index = 99 },
		func(m *api.Module) { m.Start = 99 },
		func(m *api.Module) { m.Elems[0].Table = 9 },
		func(m *api.Module) { m.Datas[0].Memory = 9 },
		func(m *api.Module) { m.Funcs[3].Body = nil },
	} {
		m := full()
		f(&m)
		l, a := Funcs(m)
		g, b := Globals(m)
		if e := Check(m); fmt.Sprint(l) != want || a != api.OK || len(g) != 8 || b != api.OK || e != api.ErrType {
			t.Errorf("change %d: %v, %d, %v, %d, %d", k, l, a, g, b, e)
		}
	}
	if l, e := Funcs(api.Module{Start: -1}); len(l) != 0 || e != api.OK {
		t.Errorf("%v, %d", l, e)
	}
}

// TestGlobals: each global, in order; of an imported one Init is empty (P7.2).
func TestGlobals(t *testing.T) {
	l, e := Globals(full())
	want := []api.Global{
		{Type: api.I32}, {Type: api.I64, Mut: true}, {Type: api.I64}, {Type: api.I32, Mut: true},
		{Type: api.I32, Init: global(0)}, {Type: api.I64, Init: c64(7)}, {Type: api.I64, Mut: true, Init: global(2)}, {Type: api.I32, Mut: true, Init: c32(-9)},
	}
	if fmt.Sprint(l) != fmt.Sprint(want) || e != api.OK {
		t.Errorf("%v, %d", l, e)
	}
	if l, e := Globals(api.Module{Start: -1}); len(l) != 0 || e != api.OK {
		t.Errorf("%v, %d", l, e)
	}
}

// spoil writes into all of l, its spare room too.
func spoil(l []int) {
	for k := range l[:cap(l)] {
		l[:cap(l)][k] = -5
	}
}

// TestNothingShared: what is told is new memory, spare room too, and what is handed in stays (R2).
func TestNothingShared(t *testing.T) {
	roomy := func(l ...int) []int { return append(make([]int, 0, 9), l...) }
	m := full()
	for k := range m.Types {
		m.Types[k].Params, m.Types[k].Results = roomy(m.Types[k].Params...), roomy(m.Types[k].Results...)
	}
	for k := range m.Globals {
		m.Globals[k].Init.Labels, m.Globals[k].Init.Body, m.Globals[k].Init.Else = roomy(), make([]in, 0, 3), make([]in, 0, 3)
	}
	was := fmt.Sprint(m)
	first, _ := Funcs(m)
	second, _ := Funcs(m)
	said := fmt.Sprint(second)
	for k := range first {
		spoil(first[k].Params)
		spoil(first[k].Results)
		first[k] = api.FuncType{}
		if k+1 < len(first) && fmt.Sprint(first[k+1:]) != fmt.Sprint(second[k+1:]) {
			t.Fatalf("%d: %v", k, first)
		}
	}
	globals, _ := Globals(m)
	if e := Check(m); e != api.OK {
		t.Errorf("%d", e)
	}
	for k := range globals {
		i := globals[k].Init
		if cap(i.Labels)+cap(i.Body)+cap(i.Else) > 0 {
			t.Errorf("%d: lists that belong to another", k)
		}
		globals[k] = api.Global{Type: -1}
	}
	for k := range m.Types {
		if slices.Contains(m.Types[k].Params[:9], -5) || slices.Contains(m.Types[k].Results[:9], -5) {
			t.Errorf("type %d: %v", k, m.Types[k])
		}
	}
	if fmt.Sprint(m) != was || fmt.Sprint(second) != said {
		t.Errorf("%v, %v", m, second)
	}
}

// TestNilIsEmpty: a nil list and an empty one are one (R2).
func TestNilIsEmpty(t *testing.T) {
	m := api.Module{
		Types: []api.FuncType{{Params: []int{}, Results: []int{}}}, Imports: []api.Import{}, Funcs: []api.Func{{Locals: []int{}, Body: []in{}}},
		Tables: []api.Limits{}, Memories: []api.Limits{}, Globals: []api.Global{}, Exports: []api.Export{}, Elems: []api.Elem{}, Datas: []api.Data{},
	}
	if e := Check(m); e != api.OK {
		t.Errorf("%d", e)
	}
}

// behind puts functions that nobody calls behind m's.
func behind(m api.Module, more ...api.Func) api.Module {
	m.Funcs = slices.Concat(m.Funcs, more)
	return m
}

// TestBehind: functions that nobody calls, put behind, change nothing but what is asked of themselves (P7.3).
func TestBehind(t *testing.T) {
	good := []api.Func{
		{},
		{Type: 1, Body: []in{{Op: 0x00}}},
		{Type: 4, Locals: []int{api.I64}, Body: []in{{Op: 0x20}, {Op: 0x20, Index: 1}, {Op: 0x10, Index: 2}}},
		{Type: 3, Body: []in{{Op: 0x10, Index: 6}}},
	}
	bad := []api.Func{{Type: 5}, {Type: 1}, {Body: []in{{Op: 0x1a}}}, {Body: []in{{Op: 0x10, Index: 99}}}, {Locals: []int{api.I32}, Body: []in{{Op: 0x20, Index: 1}, {Op: 0x1a}}}}
	for k, f := range []change{
		nothing,
		func(m *api.Module) { m.Start = -1 },
		func(m *api.Module) { m.Exports[0].Name = "b" },
		func(m *api.Module) { m.Memories[0].Min = 65537 },
		func(m *api.Module) { m.Imports[0].Type = 5 },
		func(m *api.Module) { m.Funcs[0].Body = nil },
		func(m *api.Module) { m.Elems[0].Funcs[0] = 999 },
		func(m *api.Module) { m.Globals[0].Init = global(4) },
		func(m *api.Module) { m.Start = -2 },
	} {
		m := full()
		f(&m)
		was := Check(m)
		funcs, a := Funcs(m)
		globals, b := Globals(m)
		for n := range len(good) + 1 {
			longer := behind(m, good[:n]...)
			if e := Check(longer); e != was {
				t.Errorf("change %d with %d more: %d, not %d", k, n, e, was)
			}
			l, e := Funcs(longer)
			if e != a || e == api.OK && (len(l) != len(funcs)+n || fmt.Sprint(l[:len(funcs)]) != fmt.Sprint(funcs)) {
				t.Errorf("change %d with %d more: %v, %d", k, n, l, e)
			}
			g, e := Globals(longer)
			if e != b || fmt.Sprint(g) != fmt.Sprint(globals) {
				t.Errorf("change %d with %d more: %v, %d", k, n, g, e)
			}
		}
		for n, x := range bad {
			want := api.ErrType
			if was == api.ErrForm {
				want = was
			}
			if e := Check(behind(m, good[0], x)); e != want {
				t.Errorf("change %d with bad %d: %d, not %d", k, n, e, want)
			}
		}
	}
}

// someNumber is near an edge.
func someNumber(r *rand.Rand) int {
	l := []int{0, 1, 2, 3, 4, 5, 6, 7, 8, 65536, 65537, math.MaxUint32, -1}
	return l[r.Intn(len(l))]
}

func someConstant(r *rand.Rand) in {
	l := constants()
	k := []int{0, api.I32, api.I64}[r.Intn(3)]
	return l[k][r.Intn(len(l[k]))]
}

// mangle changes something of m.
func mangle(r *rand.Rand, m *api.Module) {
	limits := api.Limits{Min: someNumber(r), Max: someNumber(r)}
	kind := []int{api.I32, api.I64}[r.Intn(2)]
	switch r.Intn(14) {
	case 0:
		m.Imports[r.Intn(len(m.Imports))] = []api.Import{{Type: someNumber(r)}, {Kind: aTable, Lim: limits}, {Kind: aMemory, Lim: limits}, {Kind: aGlobal, Type: kind, Mut: r.Intn(2) == 0}}[r.Intn(4)]
	case 1:
		m.Imports = append(m.Imports, []api.Import{{Kind: aTable, Lim: limits}, {Kind: aMemory, Lim: limits}, {Kind: aGlobal, Type: kind}}[r.Intn(3)])
	case 2:
		m.Funcs[r.Intn(len(m.Funcs))].Type = someNumber(r)
	case 3:
		m.Tables = [][]api.Limits{nil, {limits}, {limits, {}}}[r.Intn(3)]
	case 4:
		m.Memories = [][]api.Limits{nil, {limits}, {limits, {}}}[r.Intn(3)]
	case 5:
		m.Globals[r.Intn(len(m.Globals))].Init = someConstant(r)
	case 6:
		m.Globals[r.Intn(len(m.Globals))].Type = kind
	case 7:
		m.Exports[r.Intn(len(m.Exports))] = api.Export{Name: strings.Repeat("a", r.Intn(4)), Kind: r.Intn(4), Index: someNumber(r)}
	case 8:
		m.Start = someNumber(r)
	case 9:
		m.Elems[r.Intn(len(m.Elems))] = api.Elem{Table: r.Intn(8) / 7, Offset: someConstant(r), Funcs: []int{r.Intn(8), r.Intn(8)}}
	case 10:
		m.Datas[r.Intn(len(m.Datas))] = api.Data{Memory: r.Intn(8) / 7, Offset: someConstant(r)}
	case 11:
		m.Types[r.Intn(len(m.Types))].Params = [][]int{nil, {kind}, {kind, api.I32}}[r.Intn(3)]
	case 12:
		m.Types = m.Types[:r.Intn(len(m.Types))+1]
	case 13:
		f := &m.Funcs[r.Intn(len(m.Funcs))]
		f.Locals = slices.Repeat([]int{kind}, []int{0, 1, 2, 63, 64}[r.Intn(5)])
		f.Body = [][]in{nil, {{Op: 0x00}}, {{Op: 0x20}, {Op: 0x1a}}, {{Op: 0x10, Index: r.Intn(8)}, {Op: 0x00}}}[r.Intn(4)]
	}
}

// TestRandom holds modules with some changes against the model, and what is told of their functions and globals.
func TestRandom(t *testing.T) {
	r := rand.New(rand.NewSource(7))
	told := map[string]int{}
	for range 15000 {
		m := []func() api.Module{full, importing, bare}[r.Intn(3)]()
		if len(m.Elems) == 0 {
			m.Elems, m.Datas = make([]api.Elem, 1), make([]api.Data, 1)
			m.Elems[0].Offset, m.Datas[0].Offset = c32(0), c32(0)
		}
		for range 1 + r.Intn(3) {
			mangle(r, &m)
		}
		want := wanted(m)
		if e := Check(m); e != want {
			t.Fatalf("%v: %d, not %d", m, e, want)
		}
		if want == api.ErrForm {
			told["form"]++
			continue
		}
		told[fmt.Sprint(broken(m))]++
		holdLists(t, m)
	}
	for _, points := range []string{"form", "[]", "[1]", "[2]", "[3]", "[4]", "[5]", "[6]", "[7]", "[8]"} {
		if told[points] < 30 {
			t.Errorf("%s: only %d", points, told[points])
		}
	}
}

// holdLists holds Funcs and Globals against the model.
func holdLists(t *testing.T, m api.Module) {
	t.Helper()
	c := count(m)
	g, e := Globals(m)
	if e != api.OK || fmt.Sprint(g) != fmt.Sprint(c.globals) {
		t.Fatalf("%v: %v, %d", m, g, e)
	}
	l, e := Funcs(m)
	if slices.Contains(broken(m), 1) {
		if e != api.ErrType || l != nil {
			t.Fatalf("%v: %v, %d", m, l, e)
		}
		return
	}
	var want []api.FuncType
	for _, n := range c.funcs {
		want = append(want, m.Types[n])
	}
	if e != api.OK || fmt.Sprint(l) != fmt.Sprint(want) {
		t.Fatalf("%v: %v, %d", m, l, e)
	}
}
