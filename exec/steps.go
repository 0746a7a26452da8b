package exec

import (
	"slices"

	"gangway/api"
)

const opCount = 0x100 // bytes there are

// step does an instruction, and tells why the machine stands behind it, or onward.
type step func(x *Machine, i *api.Instr) api.Stop

// steps tells each instruction's step, by its byte. Bytes that are no instruction's are never asked for.
func steps() [opCount]step {
	s := [opCount]step{
		0x00: (*Machine).unreachable,
		0x01: (*Machine).nop,
		0x02: (*Machine).block,
		0x03: (*Machine).loop,
		0x04: (*Machine).choice,
		0x0c: (*Machine).branch,
		0x0d: (*Machine).branchIf,
		0x0e: (*Machine).branchTable,
		0x0f: (*Machine).back,
		0x10: (*Machine).call,
		0x11: (*Machine).callIndirect,
		0x1a: (*Machine).drop,
		0x1b: (*Machine).pick,
		0x20: (*Machine).localGet,
		0x21: (*Machine).localSet,
		0x22: (*Machine).localTee,
		0x23: (*Machine).globalGet,
		0x24: (*Machine).globalSet,
		0x28: (*Machine).load4Signed,
		0x29: (*Machine).load8,
		0x2c: (*Machine).load1Signed,
		0x2d: (*Machine).load1,
		0x2e: (*Machine).load2Signed,
		0x2f: (*Machine).load2,
		0x30: (*Machine).load1Signed,
		0x31: (*Machine).load1,
		0x32: (*Machine).load2Signed,
		0x33: (*Machine).load2,
		0x34: (*Machine).load4Signed,
		0x35: (*Machine).load4,
		0x36: (*Machine).store4,
		0x37: (*Machine).store8,
		0x3a: (*Machine).store1,
		0x3b: (*Machine).store2,
		0x3c: (*Machine).store1,
		0x3d: (*Machine).store2,
		0x3e: (*Machine).store4,
		0x3f: (*Machine).memorySize,
		0x40: (*Machine).memoryGrow,
		0x41: (*Machine).constant,
		0x42: (*Machine).constant,
	}
	fillNumbers(s[:])
	return s
}

// fillNumbers puts the steps of operations on numbers into the table.
func fillNumbers(table []step) {
	fill := func(first, last int, s step) {
		for op := first; op <= last; op++ {
			table[op] = s
		}
	}
	fill(0x45, 0x45, (*Machine).single32)
	fill(0x46, 0x4f, (*Machine).pair32)
	fill(0x50, 0x50, (*Machine).single64)
	fill(0x51, 0x5a, (*Machine).pair64)
	fill(0x67, 0x69, (*Machine).single32)
	fill(0x6a, 0x78, (*Machine).pair32)
	fill(0x79, 0x7b, (*Machine).single64)
	fill(0x7c, 0x8a, (*Machine).pair64)
	fill(0xa7, 0xa7, (*Machine).narrow)
	fill(0xac, 0xad, (*Machine).widen)
}

// onward says that the next instruction follows.
func onward() api.Stop {
	return api.Stop{Kind: api.StopNone}
}

func trap(why int) api.Stop {
	return api.Stop{Kind: api.StopTrap, Why: why}
}

func (x *Machine) unreachable(*api.Instr) api.Stop {
	return trap(api.TrapUnreachable)
}

func (x *Machine) nop(*api.Instr) api.Stop {
	return onward()
}

func (x *Machine) block(i *api.Instr) api.Stop {
	x.open(block{list: i.Body, label: countOf(i.Type)})
	return onward()
}

// countOf tells how many values a block of that type leaves.
func countOf(kind int) int {
	if kind == api.None {
		return 0
	}
	return 1
}

// loop has a label that takes nothing: a branch to it goes to its beginning.
func (x *Machine) loop(i *api.Instr) api.Stop {
	x.open(block{list: i.Body, loop: true})
	return onward()
}

func (x *Machine) choice(i *api.Instr) api.Stop {
	list := i.Else
	if x.take() != 0 {
		list = i.Body
	}
	x.open(block{list: list, label: countOf(i.Type)})
	return onward()
}

func (x *Machine) branch(i *api.Instr) api.Stop {
	x.leave(i.Index)
	return onward()
}

func (x *Machine) branchIf(i *api.Instr) api.Stop {
	if x.take() != 0 {
		x.leave(i.Index)
	}
	return onward()
}

func (x *Machine) branchTable(i *api.Instr) api.Stop {
	number := i.Index
	if at := unsigned(x.take()); at < len(i.Labels) {
		number = i.Labels[at]
	}
	x.leave(number)
	return onward()
}

// back leaves the outermost block, the function itself.
func (x *Machine) back(*api.Instr) api.Stop {
	x.leave(len(x.innermost().blocks) - 1)
	return onward()
}

func (x *Machine) call(i *api.Instr) api.Stop {
	return x.through(i.Index)
}

func (x *Machine) callIndirect(i *api.Instr) api.Stop {
	at := unsigned(x.take())
	if at >= len(x.table) || x.table[at] == nobody {
		return trap(api.TrapTable)
	}
	number := x.table[at]
	if !alike(x.funcs[number].kind, x.types[i.Index]) {
		return trap(api.TrapIndirect)
	}
	return x.through(number)
}

func alike(a, b api.FuncType) bool {
	return slices.Equal(a.Params, b.Params) && slices.Equal(a.Results, b.Results)
}

func (x *Machine) drop(*api.Instr) api.Stop {
	x.take()
	return onward()
}

// pick leaves the lower one of two values, or the upper one for 0.
func (x *Machine) pick(*api.Instr) api.Stop {
	lower := x.take() != 0
	second := x.take()
	if !lower {
		x.take()
		x.put(second)
	}
	return onward()
}
