package exec

import (
	"slices"

	"gangway/api"
	"gangway/mem"
	"gangway/types"
)

const nobody = -1 // in a table: no function is there

// function is one of a module's.
type function struct {
	kind   api.FuncType
	locals int         // how many there are beside its parameters
	body   []api.Instr // of an imported one nothing
}

func mayBe(c api.Caps) bool {
	return c.Pages >= 0 && c.Pages <= api.MaxPages && c.Depth >= 1 && c.Depth <= api.MaxDepth
}

func importsFunctions(l []api.Import) bool {
	for _, i := range l {
		if i.Kind != api.KindFunc {
			return false
		}
	}
	return true
}

// functionsOf tells the functions of a valid module that imports nothing else.
func functionsOf(m api.Module) []function {
	kinds, _ := types.Funcs(m)
	l := make([]function, len(kinds))
	for k := range kinds {
		l[k].kind = kinds[k]
	}
	own := l[len(m.Imports):]
	for k, f := range m.Funcs {
		own[k].locals, own[k].body = len(f.Locals), copied(f.Body)
	}
	return l
}

// copied makes instructions of its own: those that are handed in may be changed by whoever has them.
func copied(l []api.Instr) []api.Instr {
	own := slices.Clone(l)
	for k := range own {
		i := &own[k]
		i.Labels, i.Body, i.Else = slices.Clone(i.Labels), copied(i.Body), copied(i.Else)
	}
	return own
}

func copiedTypes(l []api.FuncType) []api.FuncType {
	own := slices.Clone(l)
	for k := range own {
		own[k].Params, own[k].Results = slices.Clone(own[k].Params), slices.Clone(own[k].Results)
	}
	return own
}

// firstValues tells what the globals begin with: numbers, as no global is imported.
func firstValues(l []api.Global) []int64 {
	var values []int64
	for _, g := range l {
		values = append(values, g.Init.Val)
	}
	return values
}

// makeTable makes the table, if there is to be one; false, if it would have too many places.
func (x *Machine) makeTable(l []api.Limits) bool {
	if len(l) == 0 {
		return true
	}
	if l[0].Min > api.MaxTable {
		return false
	}
	x.table = slices.Repeat([]int{nobody}, l[0].Min)
	return true
}

// makeMemory makes the memory, if there is to be one; false, if it would have too many pages.
func (x *Machine) makeMemory(l []api.Limits, pages int) bool {
	if len(l) == 0 {
		return true
	}
	var e api.Errno
	x.memory, e = mem.New(l[0], pages)
	return e == api.OK
}

func (x *Machine) fillTable(l []api.Elem) bool {
	for _, part := range l {
		at := unsigned(part.Offset.Val)
		if at+len(part.Funcs) > len(x.table) {
			return false
		}
		copy(x.table[at:], part.Funcs)
	}
	return true
}

func (x *Machine) fillMemory(l []api.Data) bool {
	for _, part := range l {
		if x.memory.Write(unsigned(part.Offset.Val), part.Bytes) != api.OK {
			return false
		}
	}
	return true
}

// unsigned reads a value of 32 bits without a sign.
func unsigned(v int64) int {
	return int(uint32(v))
}
