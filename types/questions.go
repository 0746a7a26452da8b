package types

import (
	"slices"

	"gangway/api"
	"gangway/body"
)

const (
	opConst32  = 0x41
	opConst64  = 0x42
	noMax      = -1
	noStart    = -1
	mostPages  = 1 << 16 // of a memory's limits: what 32 bits can name
	mostOfEach = 1       // tables, and memories
)

// questions tells what must hold of a valid module. They are asked in this order: some of them look up functions' types, which the first one makes sure of.
func questions(s *scene) []func() bool {
	return []func() bool{
		s.funcsHaveTypes,
		s.limitsHold,
		s.globalsBegin,
		s.exportNamesDiffer,
		s.exportsAreThere,
		s.startHolds,
		s.elemsHold,
		s.datasHold,
		s.bodiesHold,
	}
}

func (s *scene) funcsHaveTypes() bool {
	for _, number := range s.funcs {
		if number >= len(s.m.Types) {
			return false
		}
	}
	return true
}

func (s *scene) limitsHold() bool {
	return len(s.tables) <= mostOfEach && every(s.tables, inOrder) &&
		len(s.memories) <= mostOfEach && every(s.memories, inOrder) && every(s.memories, inPages)
}

func inOrder(l api.Limits) bool {
	return l.Max == noMax || l.Min <= l.Max
}

func inPages(l api.Limits) bool {
	return l.Min <= mostPages && l.Max <= mostPages
}

func (s *scene) globalsBegin() bool {
	return every(s.globals[s.imported:], s.begins)
}

func (s *scene) begins(g api.Global) bool {
	return s.isConstant(g.Init, g.Type)
}

// isConstant tells whether i is a constant of that type: a number, or a global that has its value ahead of the module.
func (s *scene) isConstant(i api.Instr, kind int) bool {
	switch i.Op {
	case opConst32:
		return kind == api.I32
	case opConst64:
		return kind == api.I64
	}
	return i.Index < s.imported && !s.globals[i.Index].Mut && s.globals[i.Index].Type == kind
}

func (s *scene) exportNamesDiffer() bool {
	var names []string
	for _, x := range s.m.Exports {
		names = append(names, x.Name)
	}
	slices.Sort(names)
	return len(slices.Compact(names)) == len(s.m.Exports)
}

func (s *scene) exportsAreThere() bool {
	return every(s.m.Exports, s.isThere)
}

func (s *scene) isThere(x api.Export) bool {
	switch x.Kind {
	case api.KindFunc:
		return s.isFunc(x.Index)
	case api.KindTable:
		return x.Index < len(s.tables)
	case api.KindMemory:
		return x.Index < len(s.memories)
	}
	return x.Index < len(s.globals)
}

func (s *scene) isFunc(number int) bool {
	return number < len(s.funcs)
}

func (s *scene) startHolds() bool {
	if s.m.Start == noStart {
		return true
	}
	if !s.isFunc(s.m.Start) {
		return false
	}
	f := s.funcType(s.m.Start)
	return len(f.Params) == 0 && len(f.Results) == 0
}

func (s *scene) elemsHold() bool {
	return every(s.m.Elems, s.isElem)
}

func (s *scene) isElem(x api.Elem) bool {
	return x.Table == 0 && len(s.tables) > 0 && s.isConstant(x.Offset, api.I32) && every(x.Funcs, s.isFunc)
}

func (s *scene) datasHold() bool {
	return every(s.m.Datas, s.isData)
}

func (s *scene) isData(x api.Data) bool {
	return x.Memory == 0 && len(s.memories) > 0 && s.isConstant(x.Offset, api.I32)
}

func (s *scene) bodiesHold() bool {
	funcs := s.funcTypes()
	own := len(funcs) - len(s.m.Funcs)
	for k, f := range s.m.Funcs {
		if body.Check(funcs, s.m.Types, s.globals, len(s.tables) > 0, len(s.memories) > 0, funcs[own+k], f.Locals, f.Body) != api.OK {
			return false
		}
	}
	return true
}

func every[T any](l []T, holds func(x T) bool) bool {
	for _, x := range l {
		if !holds(x) {
			return false
		}
	}
	return true
}
