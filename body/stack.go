package body

import "gangway/api"

// unknown is a type that stands for any: what an instruction finds that is never come to.
const unknown = 0

// frame is a block that has begun, or the function itself.
type frame struct {
	label  int  // what a branch to it takes: a type, or None
	result int  // what stands on the stack at its end: a type, or None
	height int  // how high the stack was where it began
	dead   bool // what follows cannot be reached
}

// checker goes through a body: what may be named there, and the types on the stack.
type checker struct {
	funcs   []api.FuncType
	types   []api.FuncType
	globals []api.Global
	locals  []int
	table   bool
	memory  bool
	steps   [opCount]step
	stack   []int
	frames  []frame // the innermost one last
}

// inFrame tells whether l are valid in a frame of their own; of what they put on the stack nothing is left.
func (c *checker) inFrame(label, result int, l []api.Instr) bool {
	c.frames = append(c.frames, frame{label: label, result: result, height: len(c.stack)})
	if !c.each(l) || !c.take(result) || len(c.stack) > c.innermost().height {
		return false
	}
	c.frames = c.frames[:len(c.frames)-1]
	return true
}

func (c *checker) each(l []api.Instr) bool {
	for k := range l {
		if !c.steps[l[k].Op](c, &l[k]) {
			return false
		}
	}
	return true
}

func (c *checker) innermost() *frame {
	return &c.frames[len(c.frames)-1]
}

// frameAt tells the frame of that number, 0 the innermost one; false, if there is none.
func (c *checker) frameAt(number int) (f frame, ok bool) {
	if number >= len(c.frames) {
		return frame{}, false
	}
	return c.frames[len(c.frames)-1-number], true
}

// cut says that what follows in the innermost frame cannot be reached.
func (c *checker) cut() {
	f := c.innermost()
	f.dead = true
	c.stack = c.stack[:f.height]
}

// put puts a type, or nothing for None.
func (c *checker) put(kind int) {
	if kind != api.None {
		c.stack = append(c.stack, kind)
	}
}

// takeAny takes whatever type is uppermost; false, if there is none.
func (c *checker) takeAny() (kind int, ok bool) {
	f := c.innermost()
	last := len(c.stack) - 1
	if last < f.height {
		return unknown, f.dead
	}
	kind = c.stack[last]
	c.stack = c.stack[:last]
	return kind, true
}

// take takes the type that is wanted, or nothing for None; false, if another one is there.
func (c *checker) take(want int) bool {
	if want == api.None {
		return true
	}
	kind, ok := c.takeAny()
	return ok && alike(kind, want)
}

// takeAll takes the types, the last one first.
func (c *checker) takeAll(kinds []int) bool {
	for k := len(kinds) - 1; k >= 0; k-- {
		if !c.take(kinds[k]) {
			return false
		}
	}
	return true
}

func alike(a, b int) bool {
	return a == b || a == unknown || b == unknown
}
