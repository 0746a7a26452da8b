package exec

import (
	"slices"

	"gangway/api"
)

// call is a function that has been called and has not returned.
type call struct {
	locals []int64
	blocks []block // the innermost one last; the first one is the function itself
}

// block is a list of instructions that has begun.
type block struct {
	list   []api.Instr
	at     int // the instruction that comes next
	height int // how many values there were where it began
	label  int // how many values a branch to it takes
	loop   bool
}

// goOn runs what there is to run, up to a stop.
func (x *Machine) goOn(fuel int) api.Stop {
	table := steps()
	for {
		b := x.ahead()
		if b == nil {
			return api.Stop{Kind: api.StopDone, Vals: x.takeLast(len(x.values))}
		}
		if fuel == 0 {
			return api.Stop{Kind: api.StopFuel}
		}
		fuel--
		x.spent++
		i := &b.list[b.at]
		b.at++
		if s := table[i.Op](x, i); s.Kind != api.StopNone {
			return s
		}
	}
}

// ahead tells the block that has the next instruction, behind the ends of blocks and of functions, which cost nothing; nil, if all calls have returned.
func (x *Machine) ahead() *block {
	for len(x.calls) > 0 {
		c := x.innermost()
		last := len(c.blocks) - 1
		if last < 0 {
			x.calls = x.calls[:len(x.calls)-1]
			continue
		}
		if b := &c.blocks[last]; b.at < len(b.list) {
			return b
		}
		c.blocks = c.blocks[:last]
	}
	return nil
}

func (x *Machine) innermost() *call {
	return &x.calls[len(x.calls)-1]
}

// through calls the function of that number with the values that are uppermost.
func (x *Machine) through(number int) api.Stop {
	if len(x.calls) == x.depth {
		return api.Stop{Kind: api.StopDepth}
	}
	f := &x.funcs[number]
	vals := x.takeLast(len(f.kind.Params))
	if number < x.imported {
		x.asked = f
		return api.Stop{Kind: api.StopHost, Func: number, Vals: vals}
	}
	x.begin(f, vals)
	return onward()
}

// begin has the function's first instruction come next.
func (x *Machine) begin(f *function, vals []int64) {
	c := call{locals: make([]int64, len(vals)+f.locals)}
	copy(c.locals, vals)
	x.calls = append(x.calls, c)
	x.open(block{list: f.body, label: len(f.kind.Results)})
}

// open begins a block above the values that there are.
func (x *Machine) open(b block) {
	b.height = len(x.values)
	c := x.innermost()
	c.blocks = append(c.blocks, b)
}

// leave branches to the label of that number: of the values above where its block began what the label takes is left.
func (x *Machine) leave(number int) {
	c := x.innermost()
	at := len(c.blocks) - 1 - number
	b := &c.blocks[at]
	from := len(x.values) - b.label
	x.values = append(x.values[:b.height], x.values[from:]...)
	if b.loop {
		b.at = 0
		at++
	}
	c.blocks = c.blocks[:at]
}

// takeLast takes the n uppermost values, the lowest first, into a list of their own.
func (x *Machine) takeLast(n int) []int64 {
	from := len(x.values) - n
	taken := slices.Clone(x.values[from:])
	x.values = x.values[:from]
	return taken
}
