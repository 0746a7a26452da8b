package body

import (
	"math/rand"
	"slices"

	"gangway/api"
)

// maker makes bodies that are valid, nearly always, for what is around them.
type maker struct {
	around
	r      *rand.Rand
	labels []string // the outermost first
	vars   string
	plain  []plainOp
	moves  []moveOp
}

type plainOp struct {
	op        int
	take, put string
}

type moveOp struct {
	op int
	access
}

func newMaker(r *rand.Rand, a around) *maker {
	g := &maker{around: a, r: r, vars: letters(a.f.Params...) + letters(a.locals...)}
	for op := range 256 {
		if x, ok := plainOf[op]; ok && op != 0x01 {
			g.plain = append(g.plain, plainOp{op, x[0], x[1]})
		}
		if x, ok := accessOn[op]; ok {
			g.moves = append(g.moves, moveOp{op, x})
		}
	}
	return g
}

// body makes a whole function's.
func (g *maker) body(deep int) []in {
	result := letters(g.f.Results...)
	return g.block(result, result, deep)
}

func (g *maker) block(label, result string, deep int) []in {
	g.labels = append(g.labels, label)
	defer func() { g.labels = g.labels[:len(g.labels)-1] }()
	var l []in
	for range g.r.Intn(4) {
		l = append(l, g.effect(deep)...)
	}
	if g.r.Intn(5) == 0 {
		return append(l, g.exit(deep)...)
	}
	return append(l, g.values(result, deep)...)
}

func (g *maker) values(kinds string, deep int) []in {
	var l []in
	for k := range kinds {
		l = append(l, g.value(kinds[k:k+1], deep)...)
	}
	return l
}

func kindOf(letter string) int {
	switch letter {
	case "i":
		return api.I32
	case "l":
		return api.I64
	}
	return api.None
}

func (g *maker) constant(kind string) in {
	v := g.r.Int63n(200) - 100
	if kind == "i" {
		return in{Op: 0x41, Val: v}
	}
	return in{Op: 0x42, Val: v}
}

// some tells one of the numbers below n of which holds holds.
func (g *maker) some(n int, holds func(k int) bool) (int, bool) {
	for range 4 {
		if n == 0 {
			break
		}
		if k := g.r.Intn(n); holds(k) {
			return k, true
		}
	}
	return 0, false
}

// value makes instructions that put one of that kind.
func (g *maker) value(kind string, deep int) []in {
	if deep == 0 {
		return []in{g.constant(kind)}
	}
	deep--
	switch g.r.Intn(12) {
	case 0, 1, 2:
		if k, ok := g.some(len(g.plain), func(k int) bool { return g.plain[k].put == kind }); ok {
			return append(g.values(g.plain[k].take, deep), in{Op: g.plain[k].op})
		}
	case 3:
		if k, ok := g.some(len(g.vars), func(k int) bool { return g.vars[k:k+1] == kind }); ok {
			if g.r.Intn(2) == 0 {
				return append(g.value(kind, deep), in{Op: 0x22, Index: k})
			}
			return []in{{Op: 0x20, Index: k}}
		}
	case 4:
		if k, ok := g.some(len(g.globals), func(k int) bool { return letters(g.globals[k].Type) == kind }); ok {
			return []in{{Op: 0x23, Index: k}}
		}
	case 5:
		if k, ok := g.some(len(g.moves), func(k int) bool { return g.moves[k].kind == kind && !g.moves[k].store }); ok && g.memory {
			return append(g.value("i", deep), g.move(k))
		}
	case 6:
		return g.blocks(kind, deep)
	case 7:
		return g.calls(kind, deep)
	case 8:
		return append(append(append(g.value(kind, deep), g.value(kind, deep)...), g.value("i", deep)...), in{Op: 0x1b})
	case 9:
		if k, ok := g.some(len(g.labels), func(k int) bool { return g.labelAt(k) == kind }); ok {
			return append(append(g.value(kind, deep), g.value("i", deep)...), in{Op: 0x0d, Index: k})
		}
	case 10:
		if g.memory && kind == "i" {
			if g.r.Intn(2) == 0 {
				return []in{{Op: 0x3f}}
			}
			return append(g.value("i", deep), in{Op: 0x40})
		}
	}
	return []in{g.constant(kind)}
}

func (g *maker) labelAt(number int) string {
	return g.labels[len(g.labels)-1-number]
}

func (g *maker) move(k int) in {
	align := 0
	for 1<<(align+1) <= g.moves[k].bytes && g.r.Intn(2) == 0 {
		align++
	}
	return in{Op: g.moves[k].op, Align: align, Offset: g.r.Intn(9)}
}

// blocks makes a block, a loop or an if with that result ("": none).
func (g *maker) blocks(result string, deep int) []in {
	i := in{Op: 0x02 + g.r.Intn(3), Type: kindOf(result)}
	switch i.Op {
	case 0x02:
		i.Body = g.block(result, result, deep)
	case 0x03:
		i.Body = g.block("", result, deep)
	case 0x04:
		i.Body = g.block(result, result, deep)
		if result != "" || g.r.Intn(2) == 0 {
			i.Else = g.block(result, result, deep)
		}
		return append(g.value("i", deep), i)
	}
	return []in{i}
}

// calls makes a call of a function with that result, or leaves it.
func (g *maker) calls(result string, deep int) []in {
	is := func(l []api.FuncType) func(k int) bool {
		return func(k int) bool { return letters(l[k].Results...) == result }
	}
	if g.r.Intn(2) == 0 {
		if k, ok := g.some(len(g.funcs), is(g.funcs)); ok {
			return append(g.values(letters(g.funcs[k].Params...), deep), in{Op: 0x10, Index: k})
		}
	} else if k, ok := g.some(len(g.types), is(g.types)); ok && g.table {
		return append(append(g.values(letters(g.types[k].Params...), deep), g.value("i", deep)...), in{Op: 0x11, Index: k})
	}
	return g.values(result, 0)
}

// effect makes instructions that leave the stack as it was.
func (g *maker) effect(deep int) []in {
	if deep == 0 {
		return []in{{Op: 0x01}}
	}
	deep--
	kind := []string{"i", "l"}[g.r.Intn(2)]
	switch g.r.Intn(8) {
	case 0:
		return append(g.value(kind, deep), in{Op: 0x1a})
	case 1:
		if k, ok := g.some(len(g.vars), func(k int) bool { return true }); ok {
			return append(g.value(g.vars[k:k+1], deep), in{Op: 0x21, Index: k})
		}
	case 2:
		if k, ok := g.some(len(g.globals), func(k int) bool { return g.globals[k].Mut }); ok {
			return append(g.value(letters(g.globals[k].Type), deep), in{Op: 0x24, Index: k})
		}
	case 3:
		if k, ok := g.some(len(g.moves), func(k int) bool { return g.moves[k].store }); ok && g.memory {
			return append(append(g.value("i", deep), g.value(g.moves[k].kind, deep)...), g.move(k))
		}
	case 4, 5:
		return g.blocks("", deep)
	case 6:
		return g.calls("", deep)
	case 7:
		if k, ok := g.some(len(g.labels), func(k int) bool { return g.labelAt(k) == "" }); ok {
			return append(g.value("i", deep), in{Op: 0x0d, Index: k})
		}
	}
	return []in{{Op: 0x01}}
}

// exit makes instructions that do not go on, and often some behind them that are never come to.
func (g *maker) exit(deep int) []in {
	number := g.r.Intn(len(g.labels))
	l := g.values(g.labelAt(number), deep)
	switch g.r.Intn(4) {
	case 0:
		l = append(l, in{Op: 0x0c, Index: number})
	case 1:
		i := in{Op: 0x0e, Index: number}
		for k := range g.labels {
			if g.labelAt(k) == g.labelAt(number) && g.r.Intn(2) == 0 {
				i.Labels = append(i.Labels, k)
			}
		}
		l = append(append(l, g.value("i", deep)...), i)
	case 2:
		l = append(g.values(g.labels[0], deep), in{Op: 0x0f})
	case 3:
		l = append(l, in{Op: 0x00})
	}
	for range g.r.Intn(4) {
		l = append(l, g.any())
	}
	return l
}

// any makes one instruction, whatever it takes.
func (g *maker) any() in {
	switch g.r.Intn(8) {
	case 0:
		return in{Op: []int{0x00, 0x01, 0x0f, 0x1a, 0x1b, 0x1b}[g.r.Intn(6)]}
	case 1:
		return in{Op: []int{0x0c, 0x0d, 0x0e}[g.r.Intn(3)], Index: g.r.Intn(3)}
	case 2:
		return in{Op: []int{0x10, 0x11, 0x20, 0x21, 0x22, 0x23, 0x24}[g.r.Intn(7)], Index: g.r.Intn(3)}
	case 3:
		return in{Op: g.moves[g.r.Intn(len(g.moves))].op, Align: g.r.Intn(4)}
	case 4:
		return in{Op: []int{0x3f, 0x40, 0x41, 0x42, 0x1b}[g.r.Intn(5)]}
	case 5:
		return in{Op: 0x02 + g.r.Intn(3), Type: []int{api.None, api.I32, api.I64}[g.r.Intn(3)], Body: []in{{Op: 0x00}}}
	}
	return in{Op: g.plain[g.r.Intn(len(g.plain))].op}
}

// lists tells all the lists of instructions that l have, l itself first.
func lists(l *[]in) []*[]in {
	all := []*[]in{l}
	for k := range *l {
		if i := &(*l)[k]; i.Op >= 0x02 && i.Op <= 0x04 {
			all = append(all, lists(&i.Body)...)
			if i.Op == 0x04 {
				all = append(all, lists(&i.Else)...)
			}
		}
	}
	return all
}

// mangle changes something in l, which may be valid behind that, or not.
func (g *maker) mangle(l *[]in) {
	all := lists(l)
	at := all[g.r.Intn(len(all))]
	k := g.r.Intn(len(*at) + 1)
	if k == len(*at) || g.r.Intn(6) == 0 {
		*at = slices.Insert(slices.Clone(*at), k, g.any())
		return
	}
	i := &(*at)[k]
	switch g.r.Intn(5) {
	case 0:
		*at = slices.Delete(slices.Clone(*at), k, k+1)
	case 1:
		*i = g.any()
	case 2:
		other := &(*at)[g.r.Intn(len(*at))]
		*i, *other = *other, *i
	case 3:
		g.nudge(i)
	case 4:
		*at = slices.Insert(slices.Clone(*at), k, *i)
	}
}

// nudge changes a number of i.
func (g *maker) nudge(i *in) {
	switch {
	case i.Op >= 0x02 && i.Op <= 0x04:
		i.Type = []int{api.None, api.I32, api.I64}[g.r.Intn(3)]
	case i.Op == 0x0e && g.r.Intn(2) == 0:
		i.Labels = append(slices.Clone(i.Labels), g.r.Intn(4))
	case i.Op >= 0x0c && i.Op <= 0x0e, i.Op == 0x10, i.Op == 0x11, i.Op >= 0x20 && i.Op <= 0x24:
		i.Index = g.r.Intn(5)
	case i.Op >= 0x28 && i.Op <= 0x3e:
		i.Align = g.r.Intn(5)
	}
}
