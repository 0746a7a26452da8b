package body

import (
	"strings"

	"gangway/api"
)

// around is all that Check is given beside the instructions.
type around struct {
	funcs, types  []api.FuncType
	globals       []api.Global
	table, memory bool
	f             api.FuncType
	locals        []int
}

func (a around) check(l ...in) api.Errno {
	return Check(a.funcs, a.types, a.globals, a.table, a.memory, a.f, a.locals, l)
}

// letters writes types down: i for I32, l for I64.
func letters(kinds ...int) string {
	s := ""
	for _, kind := range kinds {
		switch kind {
		case 0x7f:
			s += "i"
		case 0x7e:
			s += "l"
		case 0x40:
		default:
			panic("no type")
		}
	}
	return s
}

// plain tells what the instructions that need nothing around them take and put, as the chapter lists them.
func plain() map[int][2]string {
	m := map[int][2]string{
		0x01: {"", ""}, 0x41: {"", "i"}, 0x42: {"", "l"},
		0x45: {"i", "i"}, 0x50: {"l", "i"}, 0xa7: {"l", "i"}, 0xac: {"i", "l"}, 0xad: {"i", "l"},
	}
	add := func(first, last int, take, put string) {
		for op := first; op <= last; op++ {
			m[op] = [2]string{take, put}
		}
	}
	add(0x46, 0x4f, "ii", "i")
	add(0x51, 0x5a, "ll", "i")
	add(0x67, 0x69, "i", "i")
	add(0x6a, 0x78, "ii", "i")
	add(0x79, 0x7b, "l", "l")
	add(0x7c, 0x8a, "ll", "l")
	return m
}

// access is a load or a store: its bytes, its type.
type access struct {
	bytes int
	kind  string
	store bool
}

// accesses is the chapter's list of loads and stores.
func accesses() map[int]access {
	return map[int]access{
		0x28: {4, "i", false}, 0x29: {8, "l", false},
		0x2c: {1, "i", false}, 0x2d: {1, "i", false}, 0x2e: {2, "i", false}, 0x2f: {2, "i", false},
		0x30: {1, "l", false}, 0x31: {1, "l", false}, 0x32: {2, "l", false}, 0x33: {2, "l", false}, 0x34: {4, "l", false}, 0x35: {4, "l", false},
		0x36: {4, "i", true}, 0x37: {8, "l", true}, 0x3a: {1, "i", true}, 0x3b: {2, "i", true},
		0x3c: {1, "l", true}, 0x3d: {2, "l", true}, 0x3e: {4, "l", true},
	}
}

// model is the chapter once more: as no block takes anything, each has a stack of its own, a text whose last letter is uppermost (? is unknown).
type model struct {
	around
	vars string
}

// The chapter's lists, made once.
var (
	plainOf  = plain()
	accessOn = accesses()
)

// level is a block's stack, and the label of each block around it, the innermost first.
type level struct {
	stack  string
	dead   bool
	labels []string
}

// invalid is what the model stops with; whatever else it stops with is a fault of its own.
type invalid struct{}

func need(ok bool) {
	if !ok {
		panic(invalid{})
	}
}

func (v *level) pop() byte {
	if v.stack == "" {
		need(v.dead)
		return '?'
	}
	x := v.stack[len(v.stack)-1]
	v.stack = v.stack[:len(v.stack)-1]
	return x
}

func (v *level) take(kinds string) {
	for k := len(kinds) - 1; k >= 0; k-- {
		x := v.pop()
		need(x == kinds[k] || x == '?')
	}
}

func (v *level) end() {
	v.stack, v.dead = "", true
}

func (v *level) label(n int) string {
	need(n < len(v.labels))
	return v.labels[n]
}

func (m *model) block(l []in, label, result string, around []string) {
	v := &level{labels: append([]string{label}, around...)}
	for _, i := range l {
		m.instr(v, i)
	}
	v.take(result)
	need(v.stack == "")
}

func (m *model) instr(v *level, i in) {
	if p, ok := plainOf[i.Op]; ok {
		v.take(p[0])
		v.stack += p[1]
		return
	}
	if a, ok := accessOn[i.Op]; ok {
		need(m.memory && i.Align < 8 && 1<<i.Align <= a.bytes)
		if a.store {
			v.take("i" + a.kind)
		} else {
			v.take("i")
			v.stack += a.kind
		}
		return
	}
	if i.Op >= 0x10 {
		m.named(v, i)
		return
	}
	m.control(v, i)
}

func (m *model) control(v *level, i in) {
	switch i.Op {
	case 0x00:
		v.end()
	case 0x02:
		m.block(i.Body, letters(i.Type), letters(i.Type), v.labels)
		v.stack += letters(i.Type)
	case 0x03:
		m.block(i.Body, "", letters(i.Type), v.labels)
		v.stack += letters(i.Type)
	case 0x04:
		v.take("i")
		need(len(i.Else) > 0 || i.Type == 0x40)
		m.block(i.Body, letters(i.Type), letters(i.Type), v.labels)
		m.block(i.Else, letters(i.Type), letters(i.Type), v.labels)
		v.stack += letters(i.Type)
	case 0x0c:
		v.take(v.label(i.Index))
		v.end()
	case 0x0d:
		v.take("i")
		v.take(v.label(i.Index))
		v.stack += v.label(i.Index)
	case 0x0e:
		v.take("i")
		for _, n := range i.Labels {
			need(v.label(n) == v.label(i.Index))
		}
		v.take(v.label(i.Index))
		v.end()
	case 0x0f:
		v.take(v.labels[len(v.labels)-1])
		v.end()
	default:
		panic("no such instruction")
	}
}

// named are those that name something around the body, and those of any type.
func (m *model) named(v *level, i in) {
	switch i.Op {
	case 0x10:
		need(i.Index < len(m.funcs))
		v.take(letters(m.funcs[i.Index].Params...))
		v.stack += letters(m.funcs[i.Index].Results...)
	case 0x11:
		need(m.table && i.Index < len(m.types))
		v.take("i")
		v.take(letters(m.types[i.Index].Params...))
		v.stack += letters(m.types[i.Index].Results...)
	case 0x1a:
		v.pop()
	case 0x1b:
		v.take("i")
		pair := string([]byte{v.pop(), v.pop()})
		known := strings.ReplaceAll(pair, "?", "")
		need(known != "il" && known != "li")
		v.stack += (known + "?")[:1]
	case 0x20, 0x21, 0x22:
		need(i.Index < len(m.vars))
		if i.Op != 0x20 {
			v.take(m.vars[i.Index : i.Index+1])
		}
		if i.Op != 0x21 {
			v.stack += m.vars[i.Index : i.Index+1]
		}
	case 0x23:
		need(i.Index < len(m.globals))
		v.stack += letters(m.globals[i.Index].Type)
	case 0x24:
		need(i.Index < len(m.globals) && m.globals[i.Index].Mut)
		v.take(letters(m.globals[i.Index].Type))
	case 0x3f:
		need(m.memory)
		v.stack += "i"
	case 0x40:
		need(m.memory)
		v.take("i")
		v.stack += "i"
	default:
		panic("no such instruction")
	}
}

// wanted is P8.1 by the model, for types that are some and instructions that are.
func wanted(a around, l []in) (e api.Errno) {
	defer func() {
		if r := recover(); r == (invalid{}) {
			e = api.ErrType
		} else if r != nil {
			panic(r)
		}
	}()
	m := &model{a, letters(a.f.Params...) + letters(a.locals...)}
	need(len(m.vars) <= 64)
	m.block(l, letters(a.f.Results...), letters(a.f.Results...), nil)
	return api.OK
}
