package exec

import (
	"math/big"

	"gangway/api"
)

// model is the machine once more: it goes through the instructions as they stand in one another, all at once; each block has a stack of its own, as none takes anything.
type model struct {
	m       api.Module
	kinds   []api.FuncType // of all functions
	outer   int            // how many of them are imported
	places  map[int]int    // of the table: those with something there
	size    int            // of the table
	memory  []byte
	most    int // pages
	globals []int64
	depth   int
	within  int // calls within one another
	fuel    int
	spent   int
	host    func(number int, vals []int64) []int64
}

// halt is what the model stops with; whatever else it panics with is a fault of its own.
type halt struct{ api.Stop }

// onReturn is the number of a label that stands for the function, whatever is around.
const onReturn = 1 << 30

// newModel makes one of a module that may be made a machine.
func newModel(m api.Module, c api.Caps) *model {
	v := &model{m: m, outer: len(m.Imports), places: map[int]int{}, depth: c.Depth}
	for _, i := range m.Imports {
		v.kinds = append(v.kinds, m.Types[i.Type])
	}
	for _, f := range m.Funcs {
		v.kinds = append(v.kinds, m.Types[f.Type])
	}
	for _, g := range m.Globals {
		v.globals = append(v.globals, g.Init.Val)
	}
	for _, l := range m.Tables {
		v.size = l.Min
	}
	for _, l := range m.Memories {
		v.memory = make([]byte, 65536*l.Min)
		v.most = c.Pages
		if l.Max != -1 && l.Max < v.most {
			v.most = l.Max
		}
	}
	for _, x := range m.Elems {
		for k, n := range x.Funcs {
			v.places[int(x.Offset.Val)+k] = n
		}
	}
	for _, x := range m.Datas {
		for k, n := range x.Bytes {
			v.memory[int(x.Offset.Val)+k] = n
		}
	}
	return v
}

// run calls a function with that much fuel.
func (v *model) run(number int, vals []int64, fuel int) (s api.Stop) {
	v.fuel, v.within = fuel, 0
	defer func() {
		if p := recover(); p != nil {
			h, ok := p.(halt)
			if !ok {
				panic(p)
			}
			s = h.Stop
		}
	}()
	return api.Stop{Kind: api.StopDone, Vals: v.call(number, vals)}
}

func trapped(why int) {
	panic(halt{api.Stop{Kind: api.StopTrap, Why: why}})
}

func (v *model) call(number int, vals []int64) (result []int64) {
	if v.within++; v.within > v.depth {
		panic(halt{api.Stop{Kind: api.StopDepth}})
	}
	if number < v.outer {
		result = v.host(number, vals)
	} else {
		f := v.m.Funcs[number-v.outer]
		locals := append(append([]int64(nil), vals...), make([]int64, len(f.Locals))...)
		stack, _ := v.list(locals, f.Body)
		result = stack[len(stack)-len(v.kinds[number].Results):]
	}
	v.within--
	return result
}

// list does a block's instructions. It tells its stack then, and the number of the label that is branched to, or -1.
func (v *model) list(locals []int64, l []in) (stack []int64, label int) {
	for k := range l {
		if v.fuel == 0 {
			panic(halt{api.Stop{Kind: api.StopFuel}})
		}
		v.fuel--
		v.spent++
		stack, label = v.one(locals, stack, &l[k])
		if label >= 0 {
			return stack, label
		}
	}
	return stack, -1
}

// upper splits off the n uppermost values.
func upper(stack []int64, n int) (rest, taken []int64) {
	return stack[:len(stack)-n], append([]int64(nil), stack[len(stack)-n:]...)
}

func (v *model) one(locals, stack []int64, i *in) ([]int64, int) {
	var t []int64
	switch op := i.Op; {
	case op == 0x00:
		trapped(1)
	case op == 0x01:
	case op >= 0x02 && op <= 0x04:
		return v.nested(locals, stack, i)
	case op == 0x0c:
		return stack, i.Index
	case op == 0x0d:
		stack, t = upper(stack, 1)
		if t[0] != 0 {
			return stack, i.Index
		}
	case op == 0x0e:
		stack, t = upper(stack, 1)
		for k, label := range i.Labels {
			if t[0] == int64(k) {
				return stack, label
			}
		}
		return stack, i.Index
	case op == 0x0f:
		return stack, onReturn
	case op == 0x10:
		stack, t = upper(stack, len(v.kinds[i.Index].Params))
		return append(stack, v.call(i.Index, t)...), -1
	case op == 0x11:
		stack, t = upper(stack, 1)
		number := v.at(t[0], i.Index)
		stack, t = upper(stack, len(v.kinds[number].Params))
		return append(stack, v.call(number, t)...), -1
	case op == 0x1a:
		stack, _ = upper(stack, 1)
	case op == 0x1b:
		stack, t = upper(stack, 3)
		if t[2] == 0 {
			return append(stack, t[1]), -1
		}
		return append(stack, t[0]), -1
	case op == 0x20:
		return append(stack, locals[i.Index]), -1
	case op == 0x21:
		stack, t = upper(stack, 1)
		locals[i.Index] = t[0]
	case op == 0x22:
		locals[i.Index] = stack[len(stack)-1]
	case op == 0x23:
		return append(stack, v.globals[i.Index]), -1
	case op == 0x24:
		stack, t = upper(stack, 1)
		v.globals[i.Index] = t[0]
	case op >= 0x28 && op <= 0x40:
		return v.move(stack, i), -1
	case op == 0x41, op == 0x42:
		return append(stack, i.Val), -1
	default:
		stack, t = upper(stack, takes(op))
		x, why := number(op, t)
		if why != 0 {
			trapped(why)
		}
		return append(stack, x), -1
	}
	return stack, -1
}

// nested does a block, a loop or an if.
func (v *model) nested(locals, stack []int64, i *in) ([]int64, int) {
	l := i.Body
	if i.Op == 0x04 {
		var t []int64
		stack, t = upper(stack, 1)
		if t[0] == 0 {
			l = i.Else
		}
	}
	inner, label := v.list(locals, l)
	for i.Op == 0x03 && label == 0 {
		inner, label = v.list(locals, l)
	}
	if label > 0 {
		return inner, label - 1
	}
	if i.Type != 0x40 {
		stack = append(stack, inner[len(inner)-1])
	}
	return stack, -1
}

// at tells the function of that type at a place of the table.
func (v *model) at(place int64, kind int) int {
	if place < 0 || place >= int64(v.size) {
		trapped(5)
	}
	number, ok := v.places[int(place)]
	if !ok {
		trapped(5)
	}
	a, b := v.kinds[number], v.m.Types[kind]
	if len(a.Params) != len(b.Params) || len(a.Results) != len(b.Results) {
		trapped(6)
	}
	for k := range a.Params {
		if a.Params[k] != b.Params[k] {
			trapped(6)
		}
	}
	for k := range a.Results {
		if a.Results[k] != b.Results[k] {
			trapped(6)
		}
	}
	return number
}

// width is how many bytes a load or a store moves; signed, whether a load reads s; wide, whether it is of I64.
type width struct {
	bytes               int
	store, signed, wide bool
}

// widths is the list of chapters 8 and 10.
func widths() map[int]width {
	return map[int]width{
		0x28: {4, false, false, false}, 0x29: {8, false, false, true},
		0x2c: {1, false, true, false}, 0x2d: {1, false, false, false}, 0x2e: {2, false, true, false}, 0x2f: {2, false, false, false},
		0x30: {1, false, true, true}, 0x31: {1, false, false, true}, 0x32: {2, false, true, true}, 0x33: {2, false, false, true}, 0x34: {4, false, true, true}, 0x35: {4, false, false, true},
		0x36: {4, true, false, false}, 0x37: {8, true, false, true}, 0x3a: {1, true, false, false}, 0x3b: {2, true, false, false},
		0x3c: {1, true, false, true}, 0x3d: {2, true, false, true}, 0x3e: {4, true, false, true},
	}
}

var widthOf = widths()

// move does what has to do with the memory.
func (v *model) move(stack []int64, i *in) []int64 {
	pages := len(v.memory) / 65536
	if i.Op == 0x3f {
		return append(stack, int64(pages))
	}
	if i.Op == 0x40 {
		stack, t := upper(stack, 1)
		if t[0] < 0 || int64(pages)+t[0] > int64(v.most) {
			return append(stack, -1)
		}
		v.memory = append(v.memory, make([]byte, 65536*t[0])...)
		return append(stack, int64(pages))
	}
	w := widthOf[i.Op]
	if w.store {
		stack, t := upper(stack, 2)
		from := v.reach(t[0], i.Offset, w.bytes)
		x := natural(t[1], 64)
		for k := range w.bytes {
			v.memory[from+k] = byte(new(big.Int).Rsh(x, uint(8*k)).Uint64() & 255)
		}
		return stack
	}
	stack, t := upper(stack, 1)
	from := v.reach(t[0], i.Offset, w.bytes)
	x := new(big.Int)
	for k := w.bytes - 1; k >= 0; k-- {
		x.Lsh(x, 8).Add(x, big.NewInt(int64(v.memory[from+k])))
	}
	if w.signed {
		x = big.NewInt(wrap(x, 8*w.bytes))
	}
	if w.wide {
		return append(stack, wrap(x, 64))
	}
	return append(stack, wrap(x, 32))
}

func (v *model) reach(place int64, offset, n int) int {
	from := new(big.Int).Add(natural(place, 32), big.NewInt(int64(offset)))
	if new(big.Int).Add(from, big.NewInt(int64(n))).Cmp(big.NewInt(int64(len(v.memory)))) > 0 {
		trapped(4)
	}
	return int(from.Int64())
}

// natural reads the low bits of v without a sign.
func natural(v int64, bits int) *big.Int {
	return new(big.Int).Mod(big.NewInt(v), two(bits))
}

func two(n int) *big.Int {
	return new(big.Int).Lsh(big.NewInt(1), uint(n))
}

// wrap reads the low bits of x, two's complement.
func wrap(x *big.Int, bits int) int64 {
	y := new(big.Int).Mod(x, two(bits))
	if y.Cmp(two(bits-1)) >= 0 {
		y.Sub(y, two(bits))
	}
	return y.Int64()
}

// takes tells how many values an operation on numbers takes.
func takes(op int) int {
	switch op {
	case 0x45, 0x50, 0x67, 0x68, 0x69, 0x79, 0x7a, 0x7b, 0xa7, 0xac, 0xad:
		return 1
	}
	return 2
}

// number does an operation on numbers as chapters 3 and 4 say.
func number(op int, t []int64) (v int64, why int) {
	switch {
	case op == 0xa7:
		return wrap(big.NewInt(t[0]), 32), 0
	case op == 0xac:
		return t[0], 0
	case op == 0xad:
		return natural(t[0], 32).Int64(), 0
	case op == 0x45, op == 0x50:
		return truth(t[0] == 0), 0
	case op >= 0x67 && op <= 0x69:
		return count(op-0x67, natural(t[0], 32), 32), 0
	case op >= 0x79 && op <= 0x7b:
		return count(op-0x79, natural(t[0], 64), 64), 0
	case op >= 0x46 && op <= 0x4f:
		return compare(op-0x46, t[0], t[1]), 0
	case op >= 0x51 && op <= 0x5a:
		return compare(op-0x51, t[0], t[1]), 0
	case op >= 0x6a && op <= 0x78:
		return compute(op-0x6a, t[0], t[1], 32)
	case op >= 0x7c && op <= 0x8a:
		return compute(op-0x7c, t[0], t[1], 64)
	}
	panic("no such operation")
}

func truth(so bool) int64 {
	if so {
		return 1
	}
	return 0
}

func count(k int, x *big.Int, bits int) int64 {
	high, low, ones := bits-x.BitLen(), bits, 0
	for b := bits - 1; b >= 0; b-- {
		if x.Bit(b) == 1 {
			low = b
			ones++
		}
	}
	return int64([]int{high, low, ones}[k])
}

func compare(k int, a, b int64) int64 {
	s, u := big.NewInt(a).Cmp(big.NewInt(b)), natural(a, 64).Cmp(natural(b, 64))
	return truth([]bool{s == 0, s != 0, s < 0, u < 0, s > 0, u > 0, s <= 0, u <= 0, s >= 0, u >= 0}[k])
}

func compute(k int, av, bv int64, bits int) (v int64, why int) {
	a, b, au, bu := big.NewInt(av), big.NewInt(bv), natural(av, bits), natural(bv, bits)
	by := uint(new(big.Int).Mod(bu, big.NewInt(int64(bits))).Uint64())
	if k >= 3 && k <= 6 && bu.Sign() == 0 {
		return 0, 2
	}
	x := new(big.Int)
	switch k {
	case 0:
		x.Add(a, b)
	case 1:
		x.Sub(a, b)
	case 2:
		x.Mul(a, b)
	case 3:
		if x.Quo(a, b); x.Cmp(two(bits-1)) == 0 {
			return 0, 3
		}
	case 4:
		x.Quo(au, bu)
	case 5:
		x.Rem(a, b)
	case 6:
		x.Rem(au, bu)
	case 7:
		x.And(au, bu)
	case 8:
		x.Or(au, bu)
	case 9:
		x.Xor(au, bu)
	case 10:
		x.Lsh(au, by)
	case 11:
		x.Rsh(a, by)
	case 12:
		x.Rsh(au, by)
	case 13:
		x.Add(x.Lsh(au, by), new(big.Int).Rsh(au, uint(bits)-by))
	case 14:
		x.Add(x.Rsh(au, by), new(big.Int).Lsh(au, uint(bits)-by))
	}
	return wrap(x, bits), 0
}
