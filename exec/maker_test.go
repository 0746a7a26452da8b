package exec

import (
	"math"
	"math/rand"

	"gangway/api"
)

type in = api.Instr

func c32(v int64) in { return in{Op: 0x41, Val: v} }

func c64(v int64) in { return in{Op: 0x42, Val: v} }

func op(n int) in { return in{Op: n} }

func at(n, k int) in { return in{Op: n, Index: k} }

func nest(n, kind int, l ...in) in { return in{Op: n, Type: kind, Body: l} }

// maker makes valid modules, and what is asked of them: nearly all that is in them is come to.
type maker struct {
	r      *rand.Rand
	m      api.Module
	kinds  []api.FuncType // of all functions
	vars   []int          // types of the parameters and locals of the one that is made
	labels []int          // types, the outermost first
}

func (g *maker) kind() int {
	return []int{api.I32, api.I64}[g.r.Intn(2)]
}

func (g *maker) listOf(n int) []int {
	var l []int
	for range n {
		l = append(l, g.kind())
	}
	return l
}

// some tells one of the edges of numbers of that type, or a small one, or any.
func (g *maker) some(kind int) int64 {
	if g.r.Intn(2) == 0 {
		return int64(g.r.Intn(5))
	}
	if kind == api.I32 {
		return []int64{math.MinInt32, math.MinInt32 + 1, -256, -2, -1, 31, 32, 33, 255, 65535, math.MaxInt32, int64(int32(g.r.Uint32()))}[g.r.Intn(12)]
	}
	return []int64{math.MinInt64, math.MinInt64 + 1, math.MinInt32, -2, -1, 63, 64, 65, math.MaxInt32, 1<<32 - 1, math.MaxInt64, int64(g.r.Uint64())}[g.r.Intn(12)]
}

func (g *maker) somes(kinds []int) []int64 {
	var l []int64
	for _, kind := range kinds {
		l = append(l, g.some(kind))
	}
	return l
}

// module makes one with a table and a memory, and its caps.
func (g *maker) module() (api.Module, api.Caps) {
	g.m = api.Module{Start: -1}
	for range 2 + g.r.Intn(3) {
		g.m.Types = append(g.m.Types, api.FuncType{Params: g.listOf(g.r.Intn(3)), Results: g.listOf(g.r.Intn(2))})
	}
	g.m.Types = append(g.m.Types, g.m.Types[0]) // the same once more, with a number of its own
	g.kinds = nil
	for range g.r.Intn(3) {
		n := g.r.Intn(len(g.m.Types))
		g.m.Imports = append(g.m.Imports, api.Import{Type: n})
		g.kinds = append(g.kinds, g.m.Types[n])
	}
	for range 1 + g.r.Intn(4) {
		n := g.r.Intn(len(g.m.Types))
		g.m.Funcs = append(g.m.Funcs, api.Func{Type: n, Locals: g.listOf(g.r.Intn(3))})
		g.kinds = append(g.kinds, g.m.Types[n])
	}
	for range 2 + g.r.Intn(3) {
		kind := g.kind()
		g.m.Globals = append(g.m.Globals, api.Global{Type: kind, Mut: g.r.Intn(4) > 0, Init: g.constant(kind)})
	}
	g.m.Tables = []api.Limits{{Min: 5, Max: -1}}
	g.m.Memories = []api.Limits{{Min: 1, Max: []int{-1, 1, 2, 9}[g.r.Intn(4)]}}
	for range g.r.Intn(4) {
		g.m.Elems = append(g.m.Elems, api.Elem{Offset: c32(int64(g.r.Intn(4))), Funcs: []int{g.r.Intn(len(g.kinds)), g.r.Intn(len(g.kinds))}})
		g.m.Datas = append(g.m.Datas, api.Data{Offset: c32(int64(g.r.Intn(65530))), Bytes: []byte{1, 0x82, 0xff, 4}})
	}
	for k := range g.m.Funcs {
		f := &g.m.Funcs[k]
		kind := g.m.Types[f.Type]
		g.vars = append(append([]int(nil), kind.Params...), f.Locals...)
		g.labels = nil
		result := api.None
		if len(kind.Results) > 0 {
			result = kind.Results[0]
		}
		f.Body = g.block(result, result, 4)
	}
	return g.m, api.Caps{Pages: 1 + g.r.Intn(5), Depth: []int{1, 2, 3, 7, 64}[g.r.Intn(5)]}
}

// block makes the instructions of one with that label and result.
func (g *maker) block(label, result, deep int) []in {
	g.labels = append(g.labels, label)
	defer func() { g.labels = g.labels[:len(g.labels)-1] }()
	var l []in
	for range g.r.Intn(4) {
		l = append(l, g.effect(deep)...)
	}
	if g.r.Intn(6) == 0 {
		return append(l, g.exit(deep)...)
	}
	return append(l, g.value(result, deep)...)
}

func (g *maker) constant(kind int) in {
	if kind == api.I32 {
		return c32(g.some(kind))
	}
	return c64(g.some(kind))
}

// label finds the number of one of that type.
func (g *maker) label(kind int) (number int, ok bool) {
	for range 4 {
		k := g.r.Intn(len(g.labels))
		if g.labels[len(g.labels)-1-k] == kind {
			return k, true
		}
	}
	return 0, false
}

// joined puts lists one behind the other.
func joined(l ...[]in) []in {
	var all []in
	for _, x := range l {
		all = append(all, x...)
	}
	return all
}

// value makes instructions that put one of that type, or nothing for None.
func (g *maker) value(kind, deep int) []in {
	if kind == api.None {
		return nil
	}
	if deep == 0 {
		return []in{g.constant(kind)}
	}
	deep--
	switch g.r.Intn(12) {
	case 0, 1, 2:
		return g.numbers(kind, deep)
	case 3, 4:
		for k, x := range g.vars {
			if x == kind && g.r.Intn(2) == 0 {
				if g.r.Intn(2) == 0 {
					return append(g.value(kind, deep), at(0x22, k))
				}
				return []in{at(0x20, k)}
			}
		}
	case 5:
		for k, x := range g.m.Globals {
			if x.Type == kind && g.r.Intn(2) == 0 {
				return []in{at(0x23, k)}
			}
		}
	case 6:
		return g.load(kind, deep)
	case 7:
		return g.nested(kind, deep)
	case 8:
		return g.calls(kind, deep)
	case 9:
		return joined(g.value(kind, deep), g.value(kind, deep), g.value(api.I32, deep), []in{op(0x1b)})
	case 10:
		if k, ok := g.label(kind); ok {
			return joined(g.value(kind, deep), g.value(api.I32, deep), []in{at(0x0d, k)})
		}
	case 11:
		if kind == api.I32 {
			return [][]in{{op(0x3f)}, {c32(1), op(0x40)}, {g.constant(kind), op(0x40)}}[g.r.Intn(3)]
		}
	}
	return []in{g.constant(kind)}
}

// numbers makes an operation on numbers; those that divide seldom do so by 0.
func (g *maker) numbers(kind, deep int) []in {
	from, n := kind, 0
	if kind == api.I32 {
		l := []int{0x45, 0x46, 0x47, 0x48, 0x49, 0x4a, 0x4b, 0x4c, 0x4d, 0x4e, 0x4f, 0x67, 0x68, 0x69, 0x6a, 0x6b, 0x6c, 0x6d, 0x6e, 0x6f, 0x70, 0x71, 0x72, 0x73, 0x74, 0x75, 0x76, 0x77, 0x78, 0x50, 0x51, 0x52, 0x53, 0x54, 0x55, 0x56, 0x57, 0x58, 0x59, 0x5a, 0xa7}
		if n = l[g.r.Intn(len(l))]; n >= 0x50 && n <= 0x5a || n == 0xa7 {
			from = api.I64
		}
	} else {
		l := []int{0x79, 0x7a, 0x7b, 0x7c, 0x7d, 0x7e, 0x7f, 0x80, 0x81, 0x82, 0x83, 0x84, 0x85, 0x86, 0x87, 0x88, 0x89, 0x8a, 0xac, 0xad}
		if n = l[g.r.Intn(len(l))]; n >= 0xac {
			from = api.I32
		}
	}
	if g.r.Intn(20) == 0 { // the quotient that is none, or what is left of it
		if kind == api.I32 {
			return []in{c32(math.MinInt32), c32(-1), op([]int{0x6d, 0x6f}[g.r.Intn(2)])}
		}
		return []in{c64(math.MinInt64), c64(-1), op([]int{0x7f, 0x81}[g.r.Intn(2)])}
	}
	l := g.value(from, deep)
	if takes(n) == 2 {
		l = append(l, g.value(from, deep)...)
	}
	if g.r.Intn(3) > 0 {
		switch n {
		case 0x6d, 0x6e, 0x6f, 0x70:
			l = append(l, c32(3), op(0x72))
		case 0x7f, 0x80, 0x81, 0x82:
			l = append(l, c64(3), op(0x84))
		}
	}
	return append(l, op(n))
}

// place makes instructions that put a place of the memory, seldom one behind its end.
func (g *maker) place(deep int) []in {
	switch g.r.Intn(12) {
	case 0:
		return g.value(api.I32, deep)
	case 1:
		return []in{c32(65520 + g.r.Int63n(17))}
	case 2:
		return append(g.value(api.I32, deep), c32(0xff7f), op(0x71))
	}
	return []in{c32(g.r.Int63n(20))}
}

// move makes a load or a store of that type.
func (g *maker) move(kind int, store bool) in {
	for {
		n := 0x28 + g.r.Intn(0x3f-0x28)
		w, ok := widthOf[n]
		if ok && w.store == store && w.wide == (kind == api.I64) {
			return in{Op: n, Offset: []int{0, 0, 1, 5}[g.r.Intn(4)]}
		}
	}
}

func (g *maker) load(kind, deep int) []in {
	return append(g.place(deep), g.move(kind, false))
}

// nested makes a block, a loop or an if with that result.
func (g *maker) nested(result, deep int) []in {
	i := in{Op: 0x02 + g.r.Intn(3), Type: result}
	switch i.Op {
	case 0x02:
		i.Body = g.block(result, result, deep)
	case 0x03:
		i.Body = g.block(api.None, result, deep)
	case 0x04:
		i.Body = g.block(result, result, deep)
		if result != api.None || g.r.Intn(2) == 0 {
			i.Else = g.block(result, result, deep)
		}
		return append(g.value(api.I32, deep), i)
	}
	return []in{i}
}

// calls makes a call of a function with that result.
func (g *maker) calls(result, deep int) []in {
	is := func(f api.FuncType) bool {
		return len(f.Results) == 0 && result == api.None || len(f.Results) > 0 && f.Results[0] == result
	}
	arguments := func(f api.FuncType) (l []in) {
		for _, kind := range f.Params {
			l = append(l, g.value(kind, deep)...)
		}
		return l
	}
	for range 4 {
		if g.r.Intn(2) == 0 {
			if k := g.r.Intn(len(g.kinds)); is(g.kinds[k]) {
				return append(arguments(g.kinds[k]), at(0x10, k))
			}
		} else if k := g.r.Intn(len(g.m.Types)); is(g.m.Types[k]) {
			l := append(arguments(g.m.Types[k]), c32(g.r.Int63n(6)))
			return append(l, at(0x11, k))
		}
	}
	return g.value(result, 0)
}

// effect makes instructions that leave the stack as it was.
func (g *maker) effect(deep int) []in {
	if deep == 0 {
		return []in{op(0x01)}
	}
	deep--
	kind := g.kind()
	switch g.r.Intn(8) {
	case 0:
		return append(g.value(kind, deep), op(0x1a))
	case 1:
		if len(g.vars) > 0 {
			k := g.r.Intn(len(g.vars))
			return append(g.value(g.vars[k], deep), at(0x21, k))
		}
	case 2:
		if k := g.r.Intn(len(g.m.Globals)); g.m.Globals[k].Mut {
			return append(g.value(g.m.Globals[k].Type, deep), at(0x24, k))
		}
	case 3:
		return joined(g.place(deep), g.value(kind, deep), []in{g.move(kind, true)})
	case 4, 5:
		return g.nested(api.None, deep)
	case 6:
		return g.calls(api.None, deep)
	case 7:
		if k, ok := g.label(api.None); ok {
			return append(g.value(api.I32, deep), at(0x0d, k))
		}
	}
	return []in{op(0x01)}
}

// exit makes instructions that do not go on, above values that are left there, and often some behind them that are never come to.
func (g *maker) exit(deep int) []in {
	number := g.r.Intn(len(g.labels))
	kind := g.labels[len(g.labels)-1-number]
	var l []in
	for range g.r.Intn(3) {
		l = append(l, g.value(g.kind(), deep)...)
	}
	switch g.r.Intn(8) {
	case 0, 1, 2:
		l = append(append(l, g.value(kind, deep)...), at(0x0c, number))
	case 3, 4:
		i := at(0x0e, number)
		for k := range g.labels {
			if g.labels[len(g.labels)-1-k] == kind {
				i.Labels = append(i.Labels, k)
			}
		}
		l = joined(l, g.value(kind, deep), g.value(api.I32, deep), []in{i})
	case 5, 6:
		l = append(append(l, g.value(g.labels[0], deep)...), op(0x0f))
	case 7:
		l = append(l, op(0x00))
	}
	return append(l, [][]in{nil, {op(0x1a)}, {op(0x1b), op(0x45), op(0x1a)}, {op(0x00)}, {at(0x0c, 0)}}[g.r.Intn(5)]...)
}
