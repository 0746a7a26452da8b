package body

import "gangway/api"

func (c *checker) localGet(i *api.Instr) bool {
	if i.Index >= len(c.locals) {
		return false
	}
	c.put(c.locals[i.Index])
	return true
}

func (c *checker) localSet(i *api.Instr) bool {
	return i.Index < len(c.locals) && c.take(c.locals[i.Index])
}

func (c *checker) localTee(i *api.Instr) bool {
	return c.localSet(i) && c.localGet(i)
}

func (c *checker) globalGet(i *api.Instr) bool {
	if i.Index >= len(c.globals) {
		return false
	}
	c.put(c.globals[i.Index].Type)
	return true
}

func (c *checker) globalSet(i *api.Instr) bool {
	return i.Index < len(c.globals) && c.globals[i.Index].Mut && c.take(c.globals[i.Index].Type)
}

func (c *checker) load(i *api.Instr) bool {
	kind, most := accessOf(i.Op)
	if !c.memory || i.Align > most || !c.take(api.I32) {
		return false
	}
	c.put(kind)
	return true
}

func (c *checker) store(i *api.Instr) bool {
	kind, most := accessOf(i.Op)
	return c.memory && i.Align <= most && c.take(kind) && c.take(api.I32)
}

// accessOf tells the type that a load or a store moves, and the greatest Align it may have: two to that power are its bytes.
func accessOf(op int) (kind, most int) {
	switch op {
	case 0x2c, 0x2d, 0x3a:
		return api.I32, 0
	case 0x2e, 0x2f, 0x3b:
		return api.I32, 1
	case 0x28, 0x36:
		return api.I32, 2
	case 0x30, 0x31, 0x3c:
		return api.I64, 0
	case 0x32, 0x33, 0x3d:
		return api.I64, 1
	case 0x34, 0x35, 0x3e:
		return api.I64, 2
	}
	return api.I64, 3 // 0x29, 0x37
}

func (c *checker) memorySize(i *api.Instr) bool {
	c.put(api.I32)
	return c.memory
}

func (c *checker) memoryGrow(i *api.Instr) bool {
	return c.take(api.I32) && c.memorySize(i)
}

func (c *checker) constant32(i *api.Instr) bool {
	c.put(api.I32)
	return true
}

func (c *checker) constant64(i *api.Instr) bool {
	c.put(api.I64)
	return true
}

func (c *checker) compute(i *api.Instr) bool {
	from, to := shapeOf(i.Op)
	if !c.takeAll(from) {
		return false
	}
	c.put(to)
	return true
}

// shapeOf tells what an operation on numbers takes and puts.
func shapeOf(op int) (from []int, to int) {
	switch {
	case op == 0x45, 0x67 <= op && op <= 0x69:
		return []int{api.I32}, api.I32
	case 0x46 <= op && op <= 0x4f, 0x6a <= op && op <= 0x78:
		return []int{api.I32, api.I32}, api.I32
	case op == 0x50, op == 0xa7:
		return []int{api.I64}, api.I32
	case 0x51 <= op && op <= 0x5a:
		return []int{api.I64, api.I64}, api.I32
	case 0x79 <= op && op <= 0x7b:
		return []int{api.I64}, api.I64
	case 0x7c <= op && op <= 0x8a:
		return []int{api.I64, api.I64}, api.I64
	}
	return []int{api.I32}, api.I64 // 0xac, 0xad
}
