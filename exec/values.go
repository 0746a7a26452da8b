package exec

import (
	"gangway/api"
	"gangway/num32"
	"gangway/num64"
)

func (x *Machine) put(v int64) {
	x.values = append(x.values, v)
}

// put32 puts a number of 32 bits: values have it with its sign.
func (x *Machine) put32(v uint32) {
	x.put(int64(int32(v)))
}

// take takes the uppermost value: a valid module never comes to one that is not there.
func (x *Machine) take() int64 {
	last := len(x.values) - 1
	v := x.values[last]
	x.values = x.values[:last]
	return v
}

func (x *Machine) localGet(i *api.Instr) api.Stop {
	x.put(x.innermost().locals[i.Index])
	return onward()
}

func (x *Machine) localSet(i *api.Instr) api.Stop {
	x.innermost().locals[i.Index] = x.take()
	return onward()
}

func (x *Machine) localTee(i *api.Instr) api.Stop {
	x.localSet(i)
	return x.localGet(i)
}

func (x *Machine) globalGet(i *api.Instr) api.Stop {
	x.put(x.globals[i.Index])
	return onward()
}

func (x *Machine) globalSet(i *api.Instr) api.Stop {
	x.globals[i.Index] = x.take()
	return onward()
}

func (x *Machine) constant(i *api.Instr) api.Stop {
	x.put(i.Val)
	return onward()
}

func (x *Machine) single32(i *api.Instr) api.Stop {
	v, _ := num32.Un(i.Op, uint32(x.take()))
	x.put32(v)
	return onward()
}

func (x *Machine) pair32(i *api.Instr) api.Stop {
	b := uint32(x.take())
	a := uint32(x.take())
	v, why, _ := num32.Bin(i.Op, a, b)
	if why != api.TrapNone {
		return trap(why)
	}
	x.put32(v)
	return onward()
}

func (x *Machine) single64(i *api.Instr) api.Stop {
	v, _ := num64.Un(i.Op, uint64(x.take()))
	x.put(int64(v))
	return onward()
}

func (x *Machine) pair64(i *api.Instr) api.Stop {
	b := uint64(x.take())
	a := uint64(x.take())
	v, why, _ := num64.Bin(i.Op, a, b)
	if why != api.TrapNone {
		return trap(why)
	}
	x.put(int64(v))
	return onward()
}

// narrow makes a number of 32 bits of one of 64.
func (x *Machine) narrow(i *api.Instr) api.Stop {
	v, _ := num64.Conv(i.Op, uint64(x.take()))
	x.put32(uint32(v))
	return onward()
}

// widen makes a number of 64 bits of one of 32.
func (x *Machine) widen(i *api.Instr) api.Stop {
	v, _ := num64.Conv(i.Op, uint64(x.take()))
	x.put(int64(v))
	return onward()
}
