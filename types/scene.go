package types

import (
	"slices"

	"gangway/api"
)

// scene is a module that may be, and what it has of each kind: the imported ones, then its own.
type scene struct {
	m        api.Module
	funcs    []int // the number of each one's type
	tables   []api.Limits
	memories []api.Limits
	globals  []api.Global
	imported int // how many of the globals are
}

func newScene(m api.Module) *scene {
	s := &scene{m: m}
	for _, i := range m.Imports {
		s.addImport(i)
	}
	s.imported = len(s.globals)
	for _, f := range m.Funcs {
		s.funcs = append(s.funcs, f.Type)
	}
	s.tables = append(s.tables, m.Tables...)
	s.memories = append(s.memories, m.Memories...)
	for _, g := range m.Globals {
		s.globals = append(s.globals, api.Global{Type: g.Type, Mut: g.Mut, Init: constantOf(g.Init)})
	}
	return s
}

func (s *scene) addImport(i api.Import) {
	switch i.Kind {
	case api.KindFunc:
		s.funcs = append(s.funcs, i.Type)
	case api.KindTable:
		s.tables = append(s.tables, i.Lim)
	case api.KindMemory:
		s.memories = append(s.memories, i.Lim)
	case api.KindGlobal:
		s.globals = append(s.globals, api.Global{Type: i.Type, Mut: i.Mut})
	}
}

// constantOf takes over what a constant has, but not its empty lists: their spare room belongs to whoever handed it in.
func constantOf(i api.Instr) api.Instr {
	return api.Instr{Op: i.Op, Index: i.Index, Val: i.Val}
}

// funcType tells the type of the function of that number, where funcsHaveTypes holds.
func (s *scene) funcType(number int) api.FuncType {
	return s.m.Types[s.funcs[number]]
}

// funcTypes tells every function's type, each with lists of its own, where funcsHaveTypes holds.
func (s *scene) funcTypes() []api.FuncType {
	var l []api.FuncType
	for k := range s.funcs {
		f := s.funcType(k)
		l = append(l, api.FuncType{Params: slices.Clone(f.Params), Results: slices.Clone(f.Results)})
	}
	return l
}
