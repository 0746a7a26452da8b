package module

import (
	"gangway/api"
	"gangway/code"
	"gangway/leb"
	"gangway/utf"
)

// place is where reading has come to: what is left of the bytes that may be used.
type place struct {
	b []byte
}

// readList reads a vector, of at most MaxFuncs.
func readList[T any](p *place, to *[]T, read func(p *place, to *T) bool) bool {
	count := 0
	if !p.number(&count) || count > api.MaxFuncs {
		return false
	}
	for range count {
		var x T
		if !read(p, &x) {
			return false
		}
		*to = append(*to, x)
	}
	return true
}

func (p *place) byte(to *int) bool {
	if len(p.b) == 0 {
		return false
	}
	*to = int(p.b[0])
	p.b = p.b[1:]
	return true
}

// fixed goes on behind the byte x, if that is the next one.
func (p *place) fixed(x int) bool {
	found := 0
	return p.byte(&found) && found == x
}

func (p *place) number(to *int) bool {
	v, n, e := leb.Uint(p.b, numberBits)
	if e != api.OK {
		return false
	}
	*to = int(v)
	p.b = p.b[n:]
	return true
}

// piece reads how many bytes there are, and these, which stay where they are.
func (p *place) piece(to *[]byte) bool {
	size := 0
	if !p.number(&size) || size > len(p.b) {
		return false
	}
	*to, p.b = p.b[:size], p.b[size:]
	return true
}

// sized reads how many bytes something has, and then that, which must use all of them and no others.
func (p *place) sized(read func(inner *place) bool) bool {
	inner := &place{}
	return p.piece(&inner.b) && read(inner) && len(inner.b) == 0
}

// bytes reads a vector of bytes into memory of its own: the ones that were handed in are not kept.
func (p *place) bytes(to *[]byte) bool {
	var piece []byte
	if !p.piece(&piece) {
		return false
	}
	*to = append([]byte(nil), piece...)
	return true
}

func (p *place) name(to *string) bool {
	var piece []byte
	if !p.piece(&piece) || utf.Check(piece) != api.OK {
		return false
	}
	*to = string(piece)
	return true
}

func (p *place) valueType(to *int) bool {
	return p.byte(to) && isValueType(*to)
}

// flag reads a byte that is 0 or 1.
func (p *place) flag(to *bool) bool {
	x := 0
	if !p.byte(&x) || x > 1 {
		return false
	}
	*to = x == 1
	return true
}

func (p *place) limits(to *api.Limits) bool {
	bounded := false
	if !p.flag(&bounded) || !p.number(&to.Min) {
		return false
	}
	if !bounded {
		to.Max = noMax
		return true
	}
	return p.number(&to.Max)
}

func (p *place) table(to *api.Limits) bool {
	return p.fixed(tableMark) && p.limits(to)
}

func (p *place) expression(to *[]api.Instr) bool {
	l, n, e := code.Decode(p.b)
	if e != api.OK {
		return false
	}
	*to, p.b = l, p.b[n:]
	return true
}

func (p *place) constant(to *api.Instr) bool {
	var l []api.Instr
	if !p.expression(&l) || len(l) != 1 || !isConstant(l[0].Op) {
		return false
	}
	*to = l[0]
	return true
}

func (p *place) funcType(to *api.FuncType) bool {
	return p.fixed(funcMark) &&
		readList(p, &to.Params, (*place).valueType) &&
		readList(p, &to.Results, (*place).valueType) && len(to.Results) <= maxResults
}

func (p *place) imported(to *api.Import) bool {
	if !p.name(&to.Module) || !p.name(&to.Name) || !p.byte(&to.Kind) {
		return false
	}
	switch to.Kind {
	case api.KindFunc:
		return p.number(&to.Type)
	case api.KindTable:
		return p.table(&to.Lim)
	case api.KindMemory:
		return p.limits(&to.Lim)
	case api.KindGlobal:
		return p.valueType(&to.Type) && p.flag(&to.Mut)
	}
	return false
}

// funcHead reads what section 3 has of a function.
func (p *place) funcHead(to *api.Func) bool {
	return p.number(&to.Type)
}

// funcBody reads what section 10 has of a function.
func (p *place) funcBody(to *api.Func) bool {
	return p.sized(func(inner *place) bool {
		return inner.locals(&to.Locals) && inner.expression(&to.Body)
	})
}

func (p *place) locals(to *[]int) bool {
	groups := 0
	if !p.number(&groups) {
		return false
	}
	for range groups {
		if !p.group(to) {
			return false
		}
	}
	return true
}

// group adds a group's locals; how many they are is not believed before it is known that there may be so many.
func (p *place) group(to *[]int) bool {
	count, kind := 0, 0
	if !p.number(&count) || !p.valueType(&kind) || count > api.MaxLocals-len(*to) {
		return false
	}
	for range count {
		*to = append(*to, kind)
	}
	return true
}

func (p *place) global(to *api.Global) bool {
	return p.valueType(&to.Type) && p.flag(&to.Mut) && p.constant(&to.Init)
}

func (p *place) export(to *api.Export) bool {
	return p.name(&to.Name) && p.byte(&to.Kind) && to.Kind <= api.KindGlobal && p.number(&to.Index)
}

func (p *place) elem(to *api.Elem) bool {
	return p.number(&to.Table) && p.constant(&to.Offset) && readList(p, &to.Funcs, (*place).number)
}

func (p *place) data(to *api.Data) bool {
	return p.number(&to.Memory) && p.constant(&to.Offset) && p.bytes(&to.Bytes)
}
