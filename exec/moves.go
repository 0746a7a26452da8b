package exec

import "gangway/api"

const byteBits = 8

// load puts the number of n bytes that is in the memory at the place that is uppermost, with its sign or without.
// Values have a number of 32 bits with its sign: a load that reads signs does alike for both types.
func (x *Machine) load(i *api.Instr, n int, signed bool) api.Stop {
	v, e := x.memory.Load(unsigned(x.take()), i.Offset, n)
	if e != api.OK {
		return trap(api.TrapBounds)
	}
	if signed {
		v = spread(v, n*byteBits)
	}
	x.put(int64(v))
	return onward()
}

// spread repeats the highest of the low bits in all bits above it.
func spread(v uint64, bits int) uint64 {
	up := 64 - bits
	return uint64(int64(v<<up) >> up)
}

func (x *Machine) load1(i *api.Instr) api.Stop {
	return x.load(i, 1, false)
}

func (x *Machine) load1Signed(i *api.Instr) api.Stop {
	return x.load(i, 1, true)
}

func (x *Machine) load2(i *api.Instr) api.Stop {
	return x.load(i, 2, false)
}

func (x *Machine) load2Signed(i *api.Instr) api.Stop {
	return x.load(i, 2, true)
}

func (x *Machine) load4(i *api.Instr) api.Stop {
	return x.load(i, 4, false)
}

func (x *Machine) load4Signed(i *api.Instr) api.Stop {
	return x.load(i, 4, true)
}

func (x *Machine) load8(i *api.Instr) api.Stop {
	return x.load(i, 8, false)
}

// store writes the low n bytes of the value that is uppermost to the place below it.
func (x *Machine) store(i *api.Instr, n int) api.Stop {
	v := uint64(x.take())
	if x.memory.Store(unsigned(x.take()), i.Offset, n, v) != api.OK {
		return trap(api.TrapBounds)
	}
	return onward()
}

func (x *Machine) store1(i *api.Instr) api.Stop {
	return x.store(i, 1)
}

func (x *Machine) store2(i *api.Instr) api.Stop {
	return x.store(i, 2)
}

func (x *Machine) store4(i *api.Instr) api.Stop {
	return x.store(i, 4)
}

func (x *Machine) store8(i *api.Instr) api.Stop {
	return x.store(i, 8)
}

func (x *Machine) memorySize(*api.Instr) api.Stop {
	x.put(int64(x.memory.Size()))
	return onward()
}

// memoryGrow reads how many pages with its sign: it tells what Grow tells, -1 too.
func (x *Machine) memoryGrow(*api.Instr) api.Stop {
	x.put(int64(x.memory.Grow(int(x.take()))))
	return onward()
}
