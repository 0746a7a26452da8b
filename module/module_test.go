package module

import (
	"bytes"
	"math"
	"slices"
	"strings"
	"testing"

	"gangway/api"
	"gangway/leb"
)

const most = 1<<32 - 1

func head(l ...[]byte) []byte {
	return append([]byte("\x00asm\x01\x00\x00\x00"), slices.Concat(l...)...)
}

func section(id byte, l ...[]byte) []byte {
	b := slices.Concat(l...)
	return slices.Concat([]byte{id}, leb.PutUint(uint64(len(b))), b)
}

func sec(id byte, b ...byte) []byte {
	return section(id, b)
}

// holdWrong: b are no module's.
func holdWrong(t *testing.T, why string, b []byte) {
	t.Helper()
	if m, e := Decode(b); e != api.ErrForm || !same(m, api.Module{}) {
		t.Errorf("%s: %x: %v, %d", why, b[:min(len(b), 100)], m, e)
	}
}

// holdNone: m is none.
func holdNone(t *testing.T, why string, m api.Module) {
	t.Helper()
	if b, e := Encode(m); e != api.ErrForm || b != nil {
		t.Errorf("%s: %x, %d", why, b[:min(len(b), 100)], e)
	}
}

// holdRight: b are m's bytes, the shortest ones.
func holdRight(t *testing.T, why string, b []byte, m api.Module) {
	t.Helper()
	if got, e := Decode(b); e != api.OK || !same(got, m) {
		t.Errorf("%s: %x: %v, %d, not %v", why, b[:min(len(b), 100)], got, e, m)
	}
	if got, e := Encode(m); e != api.OK || !bytes.Equal(got, b) {
		t.Errorf("%s: %v: %x, %d, not %x", why, m, got[:min(len(got), 100)], e, b[:min(len(b), 100)])
	}
}

// holdRead: b are m's bytes, but not the shortest ones.
func holdRead(t *testing.T, why string, b []byte, m api.Module) {
	t.Helper()
	if got, e := Decode(b); e != api.OK || !same(got, m) {
		t.Errorf("%s: %x: %v, %d, not %v", why, b, got, e, m)
	}
	if got, e := Encode(m); e != api.OK || !bytes.Equal(got, pen{}.module(m)) || len(got) >= len(b) {
		t.Errorf("%s: %v: %x, %d", why, m, got, e)
	}
}

// hold holds Decode against the model, and tells whether b are a module's.
func hold(t *testing.T, b []byte) bool {
	t.Helper()
	m, e := Decode(b)
	wantM, wantE := wanted(b)
	if e != wantE || !same(m, wantM) {
		t.Fatalf("%x: %v, %d, not %v, %d", b, m, e, wantM, wantE)
	}
	return e == api.OK
}

func module(change func(m *api.Module)) api.Module {
	m := api.Module{Start: -1}
	change(&m)
	return m
}

// whole is a module with something of each kind.
func whole() api.Module {
	return api.Module{
		Types: []api.FuncType{{Params: []int{api.I32, api.I64}, Results: []int{api.I32}}, {}},
		Imports: []api.Import{
			{Module: "m", Name: "f", Type: 1},
			{Name: "t", Kind: api.KindTable, Lim: api.Limits{Min: 1, Max: 2}},
			{Module: "é", Kind: api.KindMemory, Lim: api.Limits{Min: 0, Max: -1}},
			{Module: "x", Name: "g", Kind: api.KindGlobal, Type: api.I64, Mut: true},
		},
		Funcs: []api.Func{
			{Type: 1, Locals: []int{api.I32, api.I32, api.I64, api.I32}, Body: []in{{Op: 0x02, Type: api.None, Body: []in{{Op: 0x01}}}}},
			{Type: 0, Body: []in{{Op: 0x41, Val: 5}}},
		},
		Tables:   []api.Limits{{Min: 3, Max: -1}},
		Memories: []api.Limits{{Min: 1, Max: 200}},
		Globals:  []api.Global{{Type: api.I32, Mut: true, Init: in{Op: 0x41, Val: -1}}, {Type: api.I64, Init: in{Op: 0x23, Index: 7}}},
		Exports:  []api.Export{{Name: "go", Index: 1}, {Kind: api.KindGlobal, Index: 300}},
		Start:    2,
		Elems:    []api.Elem{{Table: 1, Offset: in{Op: 0x41}, Funcs: []int{1, 300}}},
		Datas:    []api.Data{{Offset: in{Op: 0x42, Val: 64}, Bytes: []byte("data")}, {Memory: 3, Offset: in{Op: 0x41}}},
	}
}

// TestHeader: the first eight bytes, alone a module of nothing (P6.1, example 1).
func TestHeader(t *testing.T) {
	holdRight(t, "nothing", head(), api.Module{Start: -1})
	for k := range 8 {
		holdWrong(t, "too short", head()[:k])
		for x := range 256 {
			b := head()
			b[k] = byte(x)
			if hold(t, b) != bytes.Equal(b, head()) {
				t.Errorf("%x", b)
			}
		}
	}
	holdWrong(t, "nil", nil)
	holdWrong(t, "more", head([]byte{0}))
}

// TestWhole: a module's bytes, section by section (P6.1).
func TestWhole(t *testing.T) {
	holdRight(t, "whole", head(
		sec(1, 2, 0x60, 2, 0x7f, 0x7e, 1, 0x7f, 0x60, 0, 0),
		sec(2, 4, 1, 'm', 1, 'f', 0, 1, 0, 1, 't', 1, 0x70, 1, 1, 2, 2, 0xc3, 0xa9, 0, 2, 0, 0, 1, 'x', 1, 'g', 3, 0x7e, 1),
		sec(3, 2, 1, 0),
		sec(4, 1, 0x70, 0, 3),
		sec(5, 1, 1, 1, 0xc8, 1),
		sec(6, 2, 0x7f, 1, 0x41, 0x7f, 0x0b, 0x7e, 0, 0x23, 7, 0x0b),
		sec(7, 2, 2, 'g', 'o', 0, 1, 0, 3, 0xac, 2),
		sec(8, 2),
		sec(9, 1, 1, 0x41, 0, 0x0b, 2, 1, 0xac, 2),
		sec(10, 2, 12, 3, 2, 0x7f, 1, 0x7e, 1, 0x7f, 0x02, 0x40, 0x01, 0x0b, 0x0b, 4, 0, 0x41, 5, 0x0b),
		sec(11, 2, 0, 0x42, 0xc0, 0, 0x0b, 4, 'd', 'a', 't', 'a', 3, 0x41, 0, 0x0b, 0),
	), whole())
}

// TestEmpty: sections of nothing are read, and left out when written (P6.1).
func TestEmpty(t *testing.T) {
	var all []byte
	for id := byte(1); id <= 11; id++ {
		if id != 8 {
			all = append(all, sec(id, 0)...)
			holdRead(t, "one of nothing", head(sec(id, 0)), api.Module{Start: -1})
		}
	}
	holdRead(t, "all of nothing", head(all), api.Module{Start: -1})
	holdRight(t, "lists that are empty, not nil", head(), api.Module{Types: []api.FuncType{}, Imports: []api.Import{}, Funcs: []api.Func{}, Tables: []api.Limits{}, Memories: []api.Limits{}, Globals: []api.Global{}, Exports: []api.Export{}, Elems: []api.Elem{}, Datas: []api.Data{}, Start: -1})
	holdRight(t, "a start that is 0", head(sec(8, 0)), api.Module{})
}

// TestOrder: of two sections the first has the smaller id, but for id 0 (P6.1).
func TestOrder(t *testing.T) {
	content := func(id byte) []byte { return sec(id, 0) }
	for a := range 256 {
		for b := range 256 {
			text := head(content(byte(a)), content(byte(b)))
			may := a <= 11 && b <= 11 && (a == 0 || b == 0 || a < b)
			if _, e := Decode(text); (e == api.OK) != may {
				t.Errorf("%d, %d: %d", a, b, e)
			}
		}
	}
	for a := byte(1); a <= 11; a++ {
		holdWrong(t, "twice", head(content(a), sec(0, 0), content(a)))
		for b := byte(1); b < a; b++ {
			holdWrong(t, "falling", head(content(a), sec(0, 0), content(b)))
		}
	}
}

// TestSizes: a section has the bytes that it says, and uses all of them (P6.1).
func TestSizes(t *testing.T) {
	full := pen{}.module(whole())
	for at := 8; at < len(full); at += 2 + int(full[at+1]) {
		id, size := full[at], full[at+1]
		less, more := slices.Clone(full), slices.Clone(full)
		less[at+1]--
		more[at+1]++
		holdWrong(t, "a byte less", less)
		holdWrong(t, "a byte more", more)
		spare := slices.Insert(more, at+2+int(size), 0)
		holdWrong(t, "a byte unused", spare)
		alone := full[at+2 : at+2+int(size)]
		if id != 3 && id != 10 {
			hold(t, head(section(id, alone)))
			holdWrong(t, "a byte unused", head(section(id, alone, []byte{0})))
			for k := range alone {
				holdWrong(t, "too short", head(section(id, alone[:k])))
			}
		}
	}
	for id := byte(0); id <= 11; id++ {
		holdWrong(t, "nothing at all", head(sec(id)))
		holdWrong(t, "no size", head([]byte{id}))
		holdWrong(t, "a size without an end", head([]byte{id, 0x80}))
		holdWrong(t, "no bytes", head([]byte{id, 1}))
		holdWrong(t, "too great a size", head([]byte{id, 0xff, 0xff, 0xff, 0xff, 0x0f, 0}))
		holdWrong(t, "a size of 33 bits", head([]byte{id, 0x81, 0x80, 0x80, 0x80, 0x10, 0}))
		holdWrong(t, "a size of six bytes", head([]byte{id, 0x81, 0x80, 0x80, 0x80, 0x80, 0, 0}))
		if _, e := Decode(head([]byte{id, 0x81, 0x80, 0x80, 0x80, 0, 0})); e != api.OK {
			t.Errorf("%d: a size of five bytes: %d", id, e)
		}
	}
}

// TestCustom: sections of id 0 are a name and anything, stand anywhere, and change nothing (P6.1, P6.2).
func TestCustom(t *testing.T) {
	full := pen{}.module(whole())
	for _, c := range [][]byte{sec(0, 0), sec(0, 1, 'n', 9, 0xff), sec(0, 2, 0xc3, 0xa9, 10, 5), slices.Concat(sec(0, 0, 1), sec(0, 0))} {
		for at := 8; ; at += 2 + int(full[at+1]) {
			holdRead(t, "custom", slices.Insert(slices.Clone(full), at, c...), whole())
			if at == len(full) {
				break
			}
		}
		holdRead(t, "custom alone", head(c, c), api.Module{Start: -1})
	}
	for _, c := range [][]byte{sec(0), sec(0, 1), sec(0, 2, 'a'), sec(0, 1, 0xff), sec(0, 2, 0xc0, 0x80), sec(0, 3, 0xed, 0xa0, 0x80), sec(0, 0x80), {0, 0}} {
		holdWrong(t, "a name that is none", head(c))
		holdWrong(t, "a name that is none", head(c, sec(8, 0)))
		holdWrong(t, "a name that is none", append(slices.Clone(full), c...))
	}
}

// lists are all vectors of at most MaxFuncs: a section with n of each.
func lists() map[string]func(n int) (b []byte, m api.Module) {
	c := in{Op: 0x41}
	vec := func(n int, item ...byte) []byte {
		return append(leb.PutUint(uint64(n)), bytes.Repeat(item, n)...)
	}
	return map[string]func(n int) ([]byte, api.Module){
		"types": func(n int) ([]byte, api.Module) {
			return section(1, vec(n, 0x60, 0, 0)), api.Module{Types: make([]api.FuncType, n)}
		},
		"params": func(n int) ([]byte, api.Module) {
			return section(1, []byte{1, 0x60}, vec(n, 0x7e), []byte{0}), api.Module{Types: []api.FuncType{{Params: slices.Repeat([]int{api.I64}, n)}}}
		},
		"imports": func(n int) ([]byte, api.Module) {
			return section(2, vec(n, 0, 0, 0, 0)), api.Module{Imports: make([]api.Import, n)}
		},
		"funcs": func(n int) ([]byte, api.Module) {
			return slices.Concat(section(3, vec(n, 0)), section(10, vec(n, 2, 0, 0x0b))), api.Module{Funcs: make([]api.Func, n)}
		},
		"tables": func(n int) ([]byte, api.Module) {
			return section(4, vec(n, 0x70, 1, 0, 0)), api.Module{Tables: make([]api.Limits, n)}
		},
		"memories": func(n int) ([]byte, api.Module) {
			return section(5, vec(n, 1, 0, 0)), api.Module{Memories: make([]api.Limits, n)}
		},
		"globals": func(n int) ([]byte, api.Module) {
			return section(6, vec(n, 0x7f, 0, 0x41, 0, 0x0b)), api.Module{Globals: slices.Repeat([]api.Global{{Type: api.I32, Init: c}}, n)}
		},
		"exports": func(n int) ([]byte, api.Module) {
			return section(7, vec(n, 0, 0, 0)), api.Module{Exports: make([]api.Export, n)}
		},
		"elems": func(n int) ([]byte, api.Module) {
			return section(9, vec(n, 0, 0x41, 0, 0x0b, 0)), api.Module{Elems: slices.Repeat([]api.Elem{{Offset: c}}, n)}
		},
		"an elem's funcs": func(n int) ([]byte, api.Module) {
			return section(9, []byte{1, 0, 0x41, 0, 0x0b}, vec(n, 5)), api.Module{Elems: []api.Elem{{Offset: c, Funcs: slices.Repeat([]int{5}, n)}}}
		},
		"datas": func(n int) ([]byte, api.Module) {
			return section(11, vec(n, 0, 0x41, 0, 0x0b, 0)), api.Module{Datas: slices.Repeat([]api.Data{{Offset: c}}, n)}
		},
	}
}

// TestLists: vectors have at most MaxFuncs (P6.1).
func TestLists(t *testing.T) {
	for why, listOf := range lists() {
		for _, n := range []int{1, 2, 127, 128} {
			b, m := listOf(n)
			m.Start = -1
			holdRight(t, why, head(b), m)
		}
		for _, n := range []int{129, 130, 256, 300} {
			b, m := listOf(n)
			m.Start = -1
			holdWrong(t, why, head(b))
			holdNone(t, why, m)
		}
	}
	for id := byte(1); id <= 11; id++ {
		if id != 8 {
			holdWrong(t, "a number beyond", head(sec(id, 0xff, 0xff, 0xff, 0xff, 0x0f)))
			holdWrong(t, "a number of 33 bits", head(sec(id, 0x80, 0x80, 0x80, 0x80, 0x10)))
			holdWrong(t, "fewer than it says", head(sec(id, 1)))
		}
	}
}

// TestLong: bytes, groups of locals and labels may be more than MaxFuncs (P6.1).
func TestLong(t *testing.T) {
	long := strings.Repeat("n", 300)
	size := []byte{0xac, 2}
	holdRight(t, "names", head(
		section(2, []byte{1}, size, []byte(long), size, []byte(long), []byte{0, 0}),
		section(7, []byte{1}, size, []byte(long), []byte{0, 0}),
		section(11, []byte{1, 0, 0x41, 0, 0x0b}, size, []byte(long)),
	), module(func(m *api.Module) {
		m.Imports = []api.Import{{Module: long, Name: long}}
		m.Exports = []api.Export{{Name: long}}
		m.Datas = []api.Data{{Offset: in{Op: 0x41}, Bytes: []byte(long)}}
	}))
	holdRead(t, "a custom name", head(section(0, size, []byte(long))), api.Module{Start: -1})
	labels := slices.Repeat([]int{1}, 300)
	holdRight(t, "labels", head(
		sec(3, 1, 0),
		section(10, []byte{1, 0xb2, 2, 0, 0x0e}, size, bytes.Repeat([]byte{1}, 300), []byte{2, 0x0b}),
	), module(func(m *api.Module) {
		m.Funcs = []api.Func{{Body: []in{{Op: 0x0e, Labels: labels, Index: 2}}}}
	}))
	groups := append(bytes.Repeat([]byte{0, 0x7f}, 299), 2, 0x7e)
	holdRead(t, "groups", head(
		sec(3, 1, 0),
		section(10, []byte{1, 0xdb, 4}, size, groups, []byte{0x0b}),
	), module(func(m *api.Module) {
		m.Funcs = []api.Func{{Locals: []int{api.I64, api.I64}}}
	}))
}

// TestTypes: 0x60, types of values, at most one result (P6.1).
func TestTypes(t *testing.T) {
	of := func(f api.FuncType) api.Module { return api.Module{Types: []api.FuncType{f}, Start: -1} }
	holdRight(t, "a result", head(sec(1, 1, 0x60, 0, 1, 0x7e)), of(api.FuncType{Results: []int{api.I64}}))
	holdWrong(t, "two results", head(sec(1, 1, 0x60, 0, 2, 0x7e, 0x7e)))
	holdNone(t, "two results", of(api.FuncType{Results: []int{api.I64, api.I64}}))
	for x := range 256 {
		hold(t, head(sec(1, 1, byte(x), 0, 0)))
		hold(t, head(sec(1, 1, 0x60, 1, byte(x), 0)))
		hold(t, head(sec(1, 1, 0x60, 0, 1, byte(x))))
	}
	for _, x := range []int{-1, 0, api.None, 0x7d, 0x80, 0x100 + api.I32, math.MinInt, math.MaxInt} {
		holdNone(t, "a parameter", of(api.FuncType{Params: []int{api.I32, x}}))
		holdNone(t, "a result", of(api.FuncType{Results: []int{x}}))
		holdNone(t, "a local", api.Module{Funcs: []api.Func{{Locals: []int{x}}}, Start: -1})
		holdNone(t, "a local", api.Module{Funcs: []api.Func{{Locals: []int{api.I32, x, api.I32}}}, Start: -1})
		holdNone(t, "a global", api.Module{Globals: []api.Global{{Type: x, Init: in{Op: 0x41}}}, Start: -1})
		holdNone(t, "an imported global", api.Module{Imports: []api.Import{{Kind: api.KindGlobal, Type: x}}, Start: -1})
	}
	holdWrong(t, "a longer mark", head(sec(1, 1, 0xe0, 0, 0, 0)))
	holdWrong(t, "a longer type", head(sec(1, 1, 0x60, 1, 0xff, 0, 0)))
}

// TestImports: each kind with what it has, and nothing else (P6.1).
func TestImports(t *testing.T) {
	of := func(i api.Import) api.Module { return api.Module{Imports: []api.Import{i}, Start: -1} }
	lim := api.Limits{Min: 1, Max: -1}
	right := []struct {
		b []byte
		i api.Import
	}{
		{[]byte{0, 0x85, 1}, api.Import{Type: 133}},
		{[]byte{1, 0x70, 0, 1}, api.Import{Kind: api.KindTable, Lim: lim}},
		{[]byte{1, 0x70, 1, 9, 0}, api.Import{Kind: api.KindTable, Lim: api.Limits{Min: 9}}},
		{[]byte{2, 0, 1}, api.Import{Kind: api.KindMemory, Lim: lim}},
		{[]byte{2, 1, 1, 2}, api.Import{Kind: api.KindMemory, Lim: api.Limits{Min: 1, Max: 2}}},
		{[]byte{3, 0x7f, 0}, api.Import{Kind: api.KindGlobal, Type: api.I32}},
		{[]byte{3, 0x7e, 1}, api.Import{Kind: api.KindGlobal, Type: api.I64, Mut: true}},
	}
	for _, c := range right {
		holdRight(t, "import", head(section(2, []byte{1, 0, 0}, c.b)), of(c.i))
		for at := range c.b {
			for x := range 256 {
				b := slices.Clone(c.b)
				b[at] = byte(x)
				hold(t, head(section(2, []byte{1, 0, 0}, b)))
				hold(t, head(section(2, []byte{1, 0, 0}, b, []byte{0})))
			}
		}
		for _, kind := range []int{-1, 4, 0x100, 0x101, 0x103, math.MinInt, math.MaxInt} {
			i := c.i
			i.Kind = kind
			holdNone(t, "a kind", of(i))
		}
	}
	for why, i := range map[string]api.Import{
		"a function that changes":  {Mut: true},
		"a function with limits":   {Lim: api.Limits{Min: 1}},
		"a function without a Max": {Lim: api.Limits{Max: -1}},
		"a table of a type":        {Kind: api.KindTable, Lim: lim, Type: api.I32},
		"a table that changes":     {Kind: api.KindTable, Lim: lim, Mut: true},
		"a memory of a type":       {Kind: api.KindMemory, Lim: lim, Type: 1},
		"a memory that changes":    {Kind: api.KindMemory, Lim: lim, Mut: true},
		"a global of no type":      {Kind: api.KindGlobal},
		"a global with limits":     {Kind: api.KindGlobal, Type: api.I32, Lim: api.Limits{Max: 1}},
		"a global without a Max":   {Kind: api.KindGlobal, Type: api.I32, Lim: api.Limits{Max: -1}},
	} {
		holdNone(t, why, of(i))
	}
}

// TestNames: names are UTF-8 (P6.1).
func TestNames(t *testing.T) {
	for _, s := range []string{"", "\x00", "a b", "é", "€", "\U0010ffff", "\ufeff", "\ufffd"} {
		n := append([]byte{byte(len(s))}, s...)
		holdRight(t, "name", head(section(2, []byte{1}, n, n, []byte{0, 0}), section(7, []byte{1}, n, []byte{0, 0})), module(func(m *api.Module) {
			m.Imports = []api.Import{{Module: s, Name: s}}
			m.Exports = []api.Export{{Name: s}}
		}))
	}
	for _, s := range []string{"\xff", "a\x80", "\xc0\x80", "\xed\xa0\x80", "\xf4\x90\x80\x80", "\xe2\x82", "\xc1\xbf"} {
		n := append([]byte{byte(len(s))}, s...)
		holdWrong(t, "a module's name", head(section(2, []byte{1}, n, []byte{0, 0, 0})))
		holdWrong(t, "an import's name", head(section(2, []byte{1, 0}, n, []byte{0, 0})))
		holdWrong(t, "an export's name", head(section(7, []byte{1}, n, []byte{0, 0})))
		holdWrong(t, "a section's name", head(section(0, n)))
		holdNone(t, "a module's name", api.Module{Imports: []api.Import{{Module: s}}})
		holdNone(t, "an import's name", api.Module{Imports: []api.Import{{Name: s}}})
		holdNone(t, "an export's name", api.Module{Exports: []api.Export{{Name: s}}})
	}
	holdWrong(t, "a name cut within a point", head(sec(7, 1, 1, 0xc3, 0xa9, 0, 0)))
}

// numbers are all places of whole that have an unsigned number of 32 bits.
func numbers() map[string]func(m *api.Module) *int {
	return map[string]func(m *api.Module) *int{
		"an import's type":  func(m *api.Module) *int { return &m.Imports[0].Type },
		"an import's Min":   func(m *api.Module) *int { return &m.Imports[1].Lim.Min },
		"an import's Max":   func(m *api.Module) *int { return &m.Imports[1].Lim.Max },
		"a memory's Min":    func(m *api.Module) *int { return &m.Imports[2].Lim.Min },
		"a memory's Max":    func(m *api.Module) *int { return &m.Imports[2].Lim.Max },
		"a function's type": func(m *api.Module) *int { return &m.Funcs[1].Type },
		"a table's Min":     func(m *api.Module) *int { return &m.Tables[0].Min },
		"a table's Max":     func(m *api.Module) *int { return &m.Tables[0].Max },
		"own memory's Min":  func(m *api.Module) *int { return &m.Memories[0].Min },
		"own memory's Max":  func(m *api.Module) *int { return &m.Memories[0].Max },
		"a global's index":  func(m *api.Module) *int { return &m.Globals[1].Init.Index },
		"an export's index": func(m *api.Module) *int { return &m.Exports[0].Index },
		"the start":         func(m *api.Module) *int { return &m.Start },
		"an elem's table":   func(m *api.Module) *int { return &m.Elems[0].Table },
		"an elem's func":    func(m *api.Module) *int { return &m.Elems[0].Funcs[1] },
		"a data's memory":   func(m *api.Module) *int { return &m.Datas[1].Memory },
	}
}

// TestNumbers: all of them have 32 bits; -1 stands for no Max and no start alone (P6.1).
func TestNumbers(t *testing.T) {
	for why, place := range numbers() {
		for _, v := range []int{0, 1, 127, 128, 1 << 14, 1<<31 - 1, 1 << 31, most} {
			m := whole()
			*place(&m) = v
			holdRight(t, why, pen{}.module(m), m)
		}
		for _, v := range []int{math.MinInt, math.MinInt32, -2, most + 1, most + 2, 1 << 62, math.MaxInt} {
			m := whole()
			*place(&m) = v
			holdNone(t, why, m)
		}
		m := whole()
		*place(&m) = -1
		if strings.HasSuffix(why, "Max") || why == "the start" {
			holdRight(t, why, pen{}.module(m), m)
		} else {
			holdNone(t, why, m)
		}
	}
	for _, b := range [][]byte{{0xff, 0xff, 0xff, 0xff, 0x1f}, {0x80, 0x80, 0x80, 0x80, 0x10}, {0x80, 0x80, 0x80, 0x80, 0x80, 0}, {0x80}, {}} {
		holdWrong(t, "a start", head(section(8, b)))
		holdWrong(t, "a type", head(section(2, []byte{1, 0, 0, 0}, b)))
		holdWrong(t, "a Min", head(section(5, []byte{1, 0}, b)))
		holdWrong(t, "a Max", head(section(5, []byte{1, 1, 0}, b)))
		holdWrong(t, "an index", head(section(7, []byte{1, 0, 0}, b)))
		holdWrong(t, "a table", head(section(9, []byte{1}, b, []byte{0x41, 0, 0x0b, 0})))
		holdWrong(t, "a function's type", head(section(3, []byte{1}, b), sec(10, 1, 2, 0, 0x0b)))
	}
	holdRead(t, "a longer start", head(sec(8, 0x82, 0x80, 0)), api.Module{Start: 2})
}

// TestLimits: 0 and Min, or 1, Min and Max, in whatever order they are (P6.1).
func TestLimits(t *testing.T) {
	for _, l := range []api.Limits{{Min: 0, Max: -1}, {}, {Min: 5, Max: 3}, {Min: most, Max: -1}, {Min: most, Max: most}, {Min: 0, Max: most}} {
		b := pen{}.limits(l)
		holdRight(t, "limits", head(section(4, []byte{1, 0x70}, b), section(5, []byte{1}, b)), api.Module{Tables: []api.Limits{l}, Memories: []api.Limits{l}, Start: -1})
	}
	for x := range 256 {
		hold(t, head(sec(5, 1, byte(x), 1)))
		hold(t, head(sec(5, 1, byte(x), 1, 2)))
		hold(t, head(sec(4, 1, byte(x), 0, 1)))
		hold(t, head(sec(4, 1, 0x70, byte(x), 1)))
	}
	holdWrong(t, "a longer flag", head(sec(5, 1, 0x80, 0, 1)))
}

// TestConstants: one instruction, of three that it may be (P6.1).
func TestConstants(t *testing.T) {
	of := func(i in) []api.Module {
		return []api.Module{
			{Globals: []api.Global{{Type: api.I32, Init: i}}, Start: -1},
			{Elems: []api.Elem{{Offset: i}}, Start: -1},
			{Datas: []api.Data{{Offset: i}}, Start: -1},
		}
	}
	texts := func(b []byte) [][]byte {
		return [][]byte{
			head(section(6, []byte{1, 0x7f, 0}, b)),
			head(section(9, []byte{1, 0}, b, []byte{0})),
			head(section(11, []byte{1, 0}, b, []byte{0})),
		}
	}
	for _, i := range []in{{Op: 0x41}, {Op: 0x41, Val: math.MinInt32}, {Op: 0x41, Val: math.MaxInt32}, {Op: 0x42, Val: math.MinInt64}, {Op: 0x42, Val: math.MaxInt64}, {Op: 0x23}, {Op: 0x23, Index: most}} {
		for k, m := range of(i) {
			holdRight(t, "constant", texts(pen{}.expression(i))[k], m)
		}
	}
	none := []in{{}, {Op: 0x41, Val: math.MaxInt32 + 1}, {Op: 0x41, Val: math.MinInt32 - 1}, {Op: 0x41, Index: 1}, {Op: 0x42, Type: api.I64}, {Op: 0x42, Labels: []int{0}}, {Op: 0x23, Index: -1}, {Op: 0x23, Val: 1}, {Op: 0x23, Index: most + 1}, {Op: 0x141}, {Op: -1}, {Op: 0x41, Body: []in{{Op: 0x41}}}, {Op: 0x02, Type: api.I32, Body: []in{{Op: 0x41}}}}
	for op := range 256 {
		if op != 0x41 && op != 0x42 && op != 0x23 {
			none = append(none, in{Op: op})
		}
		for _, b := range slices.Concat(texts([]byte{byte(op), 0, 0x0b}), texts([]byte{byte(op), 0x0b}), texts([]byte{byte(op), 0x40, 0x0b, 0x0b})) {
			hold(t, b)
		}
	}
	for _, i := range none {
		for _, m := range of(i) {
			holdNone(t, "constant", m)
		}
	}
	for _, b := range [][]byte{{0x0b}, {0x41, 0, 0x41, 0, 0x0b}, {0x41, 0, 0x01, 0x0b}, {0x01, 0x41, 0, 0x0b}, {0x41, 0}, {0x41, 0, 0x05}, {0x41, 0x80, 0x80, 0x80, 0x80, 0x08, 0x0b}, {0x20, 0, 0x0b}, {}} {
		for _, text := range texts(b) {
			holdWrong(t, "constant", text)
		}
	}
}

// TestGlobalsAndExports: bytes that are one of a few (P6.1).
func TestGlobalsAndExports(t *testing.T) {
	for x := range 256 {
		hold(t, head(sec(6, 1, byte(x), 0, 0x41, 0, 0x0b)))
		hold(t, head(sec(6, 1, 0x7f, byte(x), 0x41, 0, 0x0b)))
		hold(t, head(sec(7, 1, 0, byte(x), 0)))
	}
	for kind := range 4 {
		holdRight(t, "export", head(sec(7, 1, 0, byte(kind), 3)), api.Module{Exports: []api.Export{{Kind: kind, Index: 3}}, Start: -1})
	}
	for _, kind := range []int{-1, 4, 0x100, 0x103, math.MinInt, math.MaxInt} {
		holdNone(t, "export", api.Module{Exports: []api.Export{{Kind: kind}}, Start: -1})
	}
}

// TestFuncs: sections 3 and 10 have as many; a function uses all the bytes that it says (P6.1).
func TestFuncs(t *testing.T) {
	heads := func(n int) []byte { return section(3, []byte{byte(n)}, bytes.Repeat([]byte{7}, n)) }
	bodies := func(n int) []byte { return section(10, []byte{byte(n)}, bytes.Repeat([]byte{2, 0, 0x0b}, n)) }
	for a := range 4 {
		for b := range 4 {
			m, e := Decode(head(heads(a), bodies(b)))
			if (e == api.OK) != (a == b) || e == api.OK && len(m.Funcs) != a {
				t.Errorf("%d, %d: %v, %d", a, b, m, e)
			}
		}
		if a > 0 {
			holdWrong(t, "without bodies", head(heads(a)))
			holdWrong(t, "without heads", head(bodies(a)))
		}
	}
	one := func(b ...byte) []byte { return head(sec(3, 1, 0), section(10, []byte{1}, b)) }
	holdRight(t, "a body", one(3, 0, 0x01, 0x0b), api.Module{Funcs: []api.Func{{Body: []in{{Op: 0x01}}}}, Start: -1})
	for _, b := range [][]byte{{}, {0}, {1, 0}, {2, 0, 0x01}, {3, 0, 0x0b, 0x0b}, {3, 0, 0x0b}, {1, 0, 0x0b}, {2, 0x0b}, {3, 0, 0x05, 0x0b}, {3, 0, 0x06, 0x0b}, {4, 0, 0x0b, 0x01, 0x0b}, {0x82, 0x80, 0x80, 0x80, 0x10, 0, 0x0b}, {0xff, 0xff, 0xff, 0xff, 0x0f, 0, 0x0b}} {
		holdWrong(t, "a body", one(b...))
	}
	holdWrong(t, "an end that is the next one's", head(sec(3, 2, 0, 0), sec(10, 2, 2, 0, 0x01, 2, 0, 0x0b)))
	for _, i := range []in{{Op: 0x05}, {Op: 0x0b}, {Op: -1}, {Op: 0x01, Index: 1}, {Op: 0x20, Index: -1}, {Op: 0x02}} {
		holdNone(t, "a body", api.Module{Funcs: []api.Func{{Body: []in{i}}}, Start: -1})
	}
}

// TestLocals: groups of them, at most MaxLocals in all (P6.1).
func TestLocals(t *testing.T) {
	text := func(groups ...byte) []byte {
		b := slices.Concat([]byte{byte(len(groups) / 2)}, groups, []byte{0x0b})
		return head(sec(3, 1, 0), section(10, []byte{1, byte(len(b))}, b))
	}
	of := func(l ...[]int) api.Module {
		return api.Module{Funcs: []api.Func{{Locals: slices.Concat(l...)}}, Start: -1}
	}
	many := func(n, kind int) []int { return slices.Repeat([]int{kind}, n) }
	holdRight(t, "one group", text(64, 0x7f), of(many(64, api.I32)))
	holdRight(t, "two groups", text(30, 0x7e, 34, 0x7f), of(many(30, api.I64), many(34, api.I32)))
	holdRight(t, "three groups", text(1, 0x7e, 1, 0x7f, 1, 0x7e), of(many(1, api.I64), many(1, api.I32), many(1, api.I64)))
	var unlike []byte
	var kinds []int
	for k := range 64 {
		unlike = append(unlike, 1, byte(api.I64+k%2))
		kinds = append(kinds, api.I64+k%2)
	}
	holdRight(t, "all unlike", head(sec(3, 1, 0), section(10, []byte{1, 0x82, 1, 64}, unlike, []byte{0x0b})), of(kinds))
	holdRead(t, "alike", text(1, 0x7f, 2, 0x7f), of(many(3, api.I32)))
	holdRead(t, "none", text(0, 0x7f), of())
	holdRead(t, "none between", text(1, 0x7f, 0, 0x7e, 1, 0x7f), of(many(2, api.I32)))
	holdRead(t, "none behind", text(64, 0x7f, 0, 0x7f, 0, 0x7e), of(many(64, api.I32)))
	for _, b := range [][]byte{{65, 0x7f}, {64, 0x7f, 1, 0x7f}, {1, 0x7e, 64, 0x7f}, {32, 0x7f, 33, 0x7e}, {1, 0x40}, {0, 0x40}, {0, 0}, {0x80, 0x7f}} {
		holdWrong(t, "locals", text(b...))
	}
	for _, n := range [][]byte{{0xff, 0xff, 0xff, 0xff, 0x0f}, {0xff, 0xff, 0xff, 0xff, 0x07}, {0x80, 0x80, 0x80, 0x80, 0x10}, {0x80, 2}} {
		holdWrong(t, "too many in one", head(sec(3, 1, 0), section(10, []byte{1, byte(len(n) + 3), 1}, n, []byte{0x7f, 0x0b})))
		holdWrong(t, "too many beside another", head(sec(3, 1, 0), section(10, []byte{1, byte(len(n) + 5), 2, 1, 0x7f}, n, []byte{0x7f, 0x0b})))
	}
	holdWrong(t, "too many groups", head(sec(3, 1, 0), sec(10, 1, 7, 0xff, 0xff, 0xff, 0xff, 0x0f, 0, 0x7f, 0x0b)))
	holdNone(t, "65", of(many(65, api.I32)))
	holdNone(t, "65", of(kinds, many(1, api.I32)))
	holdNone(t, "1000", of(many(1000, api.I64)))
	holdRight(t, "parameters do not count here", head(sec(1, 1, 0x60, 1, 0x7f, 0), sec(3, 1, 0), sec(10, 1, 4, 1, 64, 0x7f, 0x0b)), module(func(m *api.Module) {
		m.Types = []api.FuncType{{Params: []int{api.I32}}}
		m.Funcs = []api.Func{{Locals: many(64, api.I32)}}
	}))
}

// TestMaxBytes: a module has at most MaxBytes, read and written (P6.1).
func TestMaxBytes(t *testing.T) {
	of := func(n int) api.Module {
		return api.Module{Datas: []api.Data{{Offset: in{Op: 0x41}, Bytes: bytes.Repeat([]byte{9}, n)}}, Start: -1}
	}
	room := api.MaxBytes - len(pen{}.module(of(20000))) + 20000
	for n := room - 2; n <= room; n++ {
		holdRight(t, "much", pen{}.module(of(n)), of(n))
	}
	for n := room + 1; n < room+4; n++ {
		holdWrong(t, "too much", pen{}.module(of(n)))
		holdNone(t, "too much", of(n))
	}
	full := pen{}.module(of(room))
	if len(full) != api.MaxBytes {
		t.Fatalf("%d bytes", len(full))
	}
	rest := api.MaxBytes - 8 - 4
	custom := section(0, []byte{0}, make([]byte, rest-1))
	if m, e := Decode(head(custom)); len(head(custom)) != api.MaxBytes || e != api.OK || !same(m, api.Module{Start: -1}) {
		t.Errorf("a custom section of %d bytes: %v, %d", len(custom), m, e)
	}
	holdWrong(t, "too much", head(section(0, []byte{0}, make([]byte, rest))))
	holdWrong(t, "too much behind", append(full, sec(0, 0)...))
	long := strings.Repeat("n", api.MaxBytes)
	holdNone(t, "a long name", api.Module{Exports: []api.Export{{Name: long}}, Start: -1})
	holdNone(t, "long names", api.Module{Imports: slices.Repeat([]api.Import{{Module: long[:1000]}}, 100), Start: -1})
	nops := func(n int) api.Module {
		return api.Module{Funcs: []api.Func{{Body: slices.Repeat([]in{{Op: 0x01}}, n)}}, Start: -1}
	}
	room = api.MaxBytes - len(pen{}.module(nops(20000))) + 20000
	holdRight(t, "many nops", pen{}.module(nops(room)), nops(room))
	holdNone(t, "too many nops", nops(room+1))
	holdWrong(t, "too many nops", pen{}.module(nops(room+1)))
	sections := whole()
	sections.Datas[0].Bytes = make([]byte, 20000)
	room = api.MaxBytes - len(pen{}.module(sections)) + 20000
	sections.Datas[0].Bytes = make([]byte, room)
	holdRight(t, "much in all sections", pen{}.module(sections), sections)
	sections.Datas[0].Bytes = make([]byte, room+1)
	holdNone(t, "too much in all sections", sections)
}

// TestShared: modules whose parts are shared many times over, or lie within themselves, are refused soon (P6.1, R1).
func TestShared(t *testing.T) {
	double := []in{{Op: 0x01}}
	for range 40 {
		double = []in{{Op: 0x04, Type: api.None, Body: double, Else: double}}
	}
	round := []in{{Op: 0x02, Type: api.None}}
	round[0].Body = round
	labels := slices.Repeat([]in{{Op: 0x0e, Labels: make([]int, 1<<20)}}, 1<<16)
	for why, l := range map[string][]in{"double": double, "round": round, "labels": labels} {
		holdNone(t, why, api.Module{Funcs: slices.Repeat([]api.Func{{Body: l}}, 100), Start: -1})
		holdNone(t, why, api.Module{Globals: []api.Global{{Type: api.I32, Init: in{Op: 0x41, Body: l}}}, Start: -1})
	}
	big := make([]byte, 1<<26)
	holdNone(t, "datas", api.Module{Datas: slices.Repeat([]api.Data{{Offset: in{Op: 0x41}, Bytes: big}}, 128), Start: -1})
	holdNone(t, "names", api.Module{Exports: slices.Repeat([]api.Export{{Name: string(big)}}, 128), Start: -1})
}

// TestEachByte holds every change of one byte of a module against the model (P6.1).
func TestEachByte(t *testing.T) {
	full := pen{}.module(whole())
	right := 0
	for at := range full {
		for x := range 256 {
			b := slices.Clone(full)
			b[at] = byte(x)
			if hold(t, b) {
				right++
			}
			hold(t, slices.Insert(slices.Clone(full), at, byte(x)))
		}
		hold(t, full[:at])
		hold(t, slices.Delete(slices.Clone(full), at, at+1))
	}
	if right < len(full) {
		t.Errorf("%d of them are right: too few", right)
	}
}

// TestUndo: Decode of Encode is the module; whatever way it is written, it is the same one (P6.1, P6.2).
func TestUndo(t *testing.T) {
	k := newMaker(61)
	for range 3000 {
		m := k.module()
		b := pen{}.module(m)
		holdRight(t, "made", b, m)
		loose := pen{k.r}.module(m)
		if !hold(t, loose) {
			t.Fatalf("%x: %v", loose, m)
		}
		back, _ := Decode(loose)
		if again, e := Encode(back); e != api.OK || !bytes.Equal(again, b) {
			t.Fatalf("%x: again %x, %d, not %x", loose, again, e, b)
		}
	}
}

// TestMangled holds modules with bytes changed, put in, left out or cut off against the model; what is read is written shorter or as it was (P6.1).
func TestMangled(t *testing.T) {
	k := newMaker(62)
	right := 0
	for range 40000 {
		b := pen{k.r}.module(k.module())
		for range 1 + k.r.Intn(2) {
			at := k.r.Intn(len(b))
			switch k.r.Intn(4) {
			case 0, 1:
				b[at] = byte(k.r.Intn(256))
			case 2:
				b = slices.Insert(b, at, byte(k.r.Intn(16)))
			case 3:
				b = append(slices.Delete(b, at, at+1), 0)
			}
		}
		if !hold(t, b) {
			continue
		}
		right++
		m, _ := Decode(b)
		short, e := Encode(m)
		if e != api.OK || len(short) > len(b) || !bytes.Equal(short, pen{}.module(m)) {
			t.Fatalf("%x: %x, %d", b, short, e)
		}
	}
	if right < 2000 || right > 38000 {
		t.Errorf("%d of them are right: too few on one side", right)
	}
}

// TestNothingShared: what is handed in is neither changed nor kept; what is told is new, spare room too (R2).
func TestNothingShared(t *testing.T) {
	k := newMaker(63)
	for range 300 {
		m := k.module()
		kept := pen{}.module(m)
		b, _ := Encode(m)
		other, _ := Encode(m)
		first, _ := Decode(b)
		second, _ := Decode(b)
		if !bytes.Equal(b, kept) || !bytes.Equal(pen{}.module(m), kept) {
			t.Fatalf("%x: changed", kept)
		}
		spoil(&second)
		clear(b[:cap(b)])
		if !same(first, m) || !bytes.Equal(other, kept) {
			t.Fatalf("%x: shared", kept)
		}
		grow(&first)
		if !same(first, m) {
			t.Fatalf("%x: lists share spare room", kept)
		}
	}
}

// spoil writes over all lists of m, spare room too.
func spoil(m *api.Module) {
	for k := range m.Types {
		clear(m.Types[k].Params[:cap(m.Types[k].Params)])
		clear(m.Types[k].Results[:cap(m.Types[k].Results)])
	}
	for k := range m.Funcs {
		clear(m.Funcs[k].Locals[:cap(m.Funcs[k].Locals)])
		clear(m.Funcs[k].Body[:cap(m.Funcs[k].Body)])
	}
	for k := range m.Elems {
		clear(m.Elems[k].Funcs[:cap(m.Elems[k].Funcs)])
	}
	for k := range m.Datas {
		clear(m.Datas[k].Bytes[:cap(m.Datas[k].Bytes)])
	}
	clear(m.Types[:cap(m.Types)])
	clear(m.Imports[:cap(m.Imports)])
	clear(m.Funcs[:cap(m.Funcs)])
	clear(m.Tables[:cap(m.Tables)])
	clear(m.Memories[:cap(m.Memories)])
	clear(m.Globals[:cap(m.Globals)])
	clear(m.Exports[:cap(m.Exports)])
	clear(m.Elems[:cap(m.Elems)])
	clear(m.Datas[:cap(m.Datas)])
}

// grow appends to all lists of m.
func grow(m *api.Module) {
	for k := range m.Types {
		_ = append(m.Types[k].Params, -1)
		_ = append(m.Types[k].Results, -1)
	}
	for k := range m.Funcs {
		_ = append(m.Funcs[k].Locals, -1)
		_ = append(m.Funcs[k].Body, in{Op: -1})
	}
	for k := range m.Elems {
		_ = append(m.Elems[k].Funcs, -1)
	}
	for k := range m.Datas {
		_ = append(m.Datas[k].Bytes, 0xee)
	}
	_ = append(m.Tables, api.Limits{Min: -1})
	_ = append(m.Memories, api.Limits{Min: -1})
}
