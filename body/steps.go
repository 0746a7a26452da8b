package body

import "gangway/api"

const opCount = 0x100 // bytes there are

// step goes on behind an instruction; false, if that is not valid there.
type step func(c *checker, i *api.Instr) bool

// steps tells each instruction's step, by its byte. Bytes that are no instruction's are never asked for.
func steps() [opCount]step {
	s := [opCount]step{
		0x00: (*checker).unreachable,
		0x01: (*checker).nop,
		0x02: (*checker).block,
		0x03: (*checker).loop,
		0x04: (*checker).choice,
		0x0c: (*checker).branch,
		0x0d: (*checker).branchIf,
		0x0e: (*checker).branchTable,
		0x0f: (*checker).back,
		0x10: (*checker).call,
		0x11: (*checker).callIndirect,
		0x1a: (*checker).drop,
		0x1b: (*checker).pick,
		0x20: (*checker).localGet,
		0x21: (*checker).localSet,
		0x22: (*checker).localTee,
		0x23: (*checker).globalGet,
		0x24: (*checker).globalSet,
		0x3f: (*checker).memorySize,
		0x40: (*checker).memoryGrow,
		0x41: (*checker).constant32,
		0x42: (*checker).constant64,
	}
	fill(s[0x28:0x36], (*checker).load)
	fill(s[0x36:0x3f], (*checker).store)
	fill(s[0x45:0xae], (*checker).compute)
	return s
}

func fill(l []step, s step) {
	for k := range l {
		l[k] = s
	}
}

func (c *checker) unreachable(i *api.Instr) bool {
	c.cut()
	return true
}

func (c *checker) nop(i *api.Instr) bool {
	return true
}

func (c *checker) block(i *api.Instr) bool {
	if !c.inFrame(i.Type, i.Type, i.Body) {
		return false
	}
	c.put(i.Type)
	return true
}

// loop has a label of no type: a branch to it goes to its beginning.
func (c *checker) loop(i *api.Instr) bool {
	if !c.inFrame(api.None, i.Type, i.Body) {
		return false
	}
	c.put(i.Type)
	return true
}

// choice needs no question of its own for a result without an Else: an empty one has no result.
func (c *checker) choice(i *api.Instr) bool {
	if !c.take(api.I32) || !c.inFrame(i.Type, i.Type, i.Body) || !c.inFrame(i.Type, i.Type, i.Else) {
		return false
	}
	c.put(i.Type)
	return true
}

func (c *checker) branch(i *api.Instr) bool {
	return c.leave(i.Index)
}

// leave takes what that frame's label takes; nothing behind it can be reached.
func (c *checker) leave(number int) bool {
	f, ok := c.frameAt(number)
	if !ok || !c.take(f.label) {
		return false
	}
	c.cut()
	return true
}

func (c *checker) branchIf(i *api.Instr) bool {
	f, ok := c.frameAt(i.Index)
	if !ok || !c.take(api.I32) || !c.take(f.label) {
		return false
	}
	c.put(f.label)
	return true
}

func (c *checker) branchTable(i *api.Instr) bool {
	usual, ok := c.frameAt(i.Index)
	if !ok || !c.take(api.I32) {
		return false
	}
	for _, number := range i.Labels {
		if f, ok := c.frameAt(number); !ok || f.label != usual.label {
			return false
		}
	}
	return c.leave(i.Index)
}

// back leaves the outermost frame, the function itself.
func (c *checker) back(i *api.Instr) bool {
	return c.leave(len(c.frames) - 1)
}

func (c *checker) call(i *api.Instr) bool {
	return i.Index < len(c.funcs) && c.through(c.funcs[i.Index])
}

func (c *checker) callIndirect(i *api.Instr) bool {
	return c.table && i.Index < len(c.types) && c.take(api.I32) && c.through(c.types[i.Index])
}

// through calls a function of type f.
func (c *checker) through(f api.FuncType) bool {
	if !c.takeAll(f.Params) {
		return false
	}
	c.put(resultOf(f))
	return true
}

func (c *checker) drop(i *api.Instr) bool {
	_, ok := c.takeAny()
	return ok
}

// pick puts the one of both types that is known, if one is.
func (c *checker) pick(i *api.Instr) bool {
	if !c.take(api.I32) {
		return false
	}
	a, thereA := c.takeAny()
	b, thereB := c.takeAny()
	if !thereA || !thereB || !alike(a, b) {
		return false
	}
	if a == unknown {
		a = b
	}
	c.put(a)
	return true
}
