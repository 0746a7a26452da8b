package types

import (
	"slices"

	"gangway/api"
	"gangway/body"
	"gangway/module"
)

// counted is what a module has of each kind, the imported ones first.
type counted struct {
	funcs            []int
	tables, memories []api.Limits
	globals          []api.Global
	outer            int // globals that are imported
}

func count(m api.Module) (c counted) {
	for kind := range 4 {
		for _, i := range m.Imports {
			switch {
			case i.Kind != kind:
			case kind == 0:
				c.funcs = append(c.funcs, i.Type)
			case kind == 1:
				c.tables = append(c.tables, i.Lim)
			case kind == 2:
				c.memories = append(c.memories, i.Lim)
			case kind == 3:
				c.globals = append(c.globals, api.Global{Type: i.Type, Mut: i.Mut})
				c.outer++
			}
		}
	}
	for _, f := range m.Funcs {
		c.funcs = append(c.funcs, f.Type)
	}
	c.tables = slices.Concat(c.tables, m.Tables)
	c.memories = slices.Concat(c.memories, m.Memories)
	c.globals = slices.Concat(c.globals, m.Globals)
	return c
}

// broken tells which of P7.1's points, 1 the first, do not hold of a module that may be.
func broken(m api.Module) (l []int) {
	c := count(m)
	say := func(point int, holds bool) {
		if !holds && !slices.Contains(l, point) {
			l = append(l, point)
		}
	}
	for _, n := range c.funcs {
		say(1, n < len(m.Types))
	}
	say(2, len(c.tables) < 2 && len(c.memories) < 2)
	for _, x := range slices.Concat(c.tables, c.memories) {
		say(2, x.Max == -1 || x.Min <= x.Max)
	}
	for _, x := range c.memories {
		say(2, x.Min <= 65536 && x.Max <= 65536)
	}
	for _, g := range m.Globals {
		say(3, c.constant(g.Init) == g.Type)
	}
	for k, x := range m.Exports {
		for _, y := range m.Exports[:k] {
			say(4, x.Name != y.Name)
		}
		say(4, x.Index < []int{len(c.funcs), len(c.tables), len(c.memories), len(c.globals)}[x.Kind])
	}
	say(5, m.Start == -1 || m.Start < len(c.funcs) && slices.Contains(l, 1) || m.Start < len(c.funcs) && len(m.Types[c.funcs[m.Start]].Params)+len(m.Types[c.funcs[m.Start]].Results) == 0)
	for _, x := range m.Elems {
		say(6, x.Table == 0 && len(c.tables) == 1 && c.constant(x.Offset) == api.I32)
		for _, n := range x.Funcs {
			say(6, n < len(c.funcs))
		}
	}
	for _, x := range m.Datas {
		say(7, x.Memory == 0 && len(c.memories) == 1 && c.constant(x.Offset) == api.I32)
	}
	if !slices.Contains(l, 1) {
		say(8, c.bodies(m))
	}
	return l
}

// constant tells the type of a constant that may stand there, or 0.
func (c counted) constant(i api.Instr) int {
	switch {
	case i.Op == 0x41:
		return api.I32
	case i.Op == 0x42:
		return api.I64
	case i.Op == 0x23 && i.Index < c.outer && !c.globals[i.Index].Mut:
		return c.globals[i.Index].Type
	}
	return 0
}

func (c counted) bodies(m api.Module) bool {
	var funcs []api.FuncType
	for _, n := range c.funcs {
		funcs = append(funcs, m.Types[n])
	}
	for _, f := range m.Funcs {
		if body.Check(funcs, m.Types, c.globals, c.tables != nil, c.memories != nil, m.Types[f.Type], f.Locals, f.Body) != api.OK {
			return false
		}
	}
	return true
}

// wanted is P7.1 by the model.
func wanted(m api.Module) api.Errno {
	if _, e := module.Encode(m); e != api.OK {
		return api.ErrForm
	}
	if len(broken(m)) > 0 {
		return api.ErrType
	}
	return api.OK
}
