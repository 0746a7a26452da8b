package module

import (
	"gangway/api"
	"gangway/code"
	"gangway/leb"
	"gangway/utf"
)

// text is what has been written: never more bytes than a module may have.
// What writes into it tells false if there are no bytes for what it was given, or no room for them; nobody reads the text then.
type text struct {
	b []byte
}

// writeList writes a vector, of at most MaxFuncs.
func writeList[T any](t *text, l []T, write func(t *text, x T) bool) bool {
	if len(l) > api.MaxFuncs || !t.number(len(l)) {
		return false
	}
	return writeEach(t, l, write)
}

func writeEach[T any](t *text, l []T, write func(t *text, x T) bool) bool {
	for _, x := range l {
		if !write(t, x) {
			return false
		}
	}
	return true
}

func (t *text) room() int {
	return api.MaxBytes - len(t.b)
}

func (t *text) put(b ...byte) bool {
	if len(b) > t.room() {
		return false
	}
	t.b = append(t.b, b...)
	return true
}

func (t *text) number(v int) bool {
	return uint64(v)>>numberBits == 0 && t.put(leb.PutUint(uint64(v))...)
}

func (t *text) bytes(b []byte) bool {
	return t.number(len(b)) && t.put(b...)
}

// name asks for room first, so that a text that is too long is not copied.
func (t *text) name(s string) bool {
	return len(s) <= t.room() && utf.Check([]byte(s)) == api.OK && t.bytes([]byte(s))
}

func (t *text) valueType(kind int) bool {
	return isValueType(kind) && t.put(byte(kind))
}

func (t *text) flag(set bool) bool {
	if set {
		return t.put(1)
	}
	return t.put(0)
}

func (t *text) limits(l api.Limits) bool {
	bounded := l.Max != noMax
	return t.flag(bounded) && t.number(l.Min) && (!bounded || t.number(l.Max))
}

func (t *text) table(l api.Limits) bool {
	return t.put(tableMark) && t.limits(l)
}

// expression counts first: instructions that share their parts may be far more than there is room, or time, for.
func (t *text) expression(l []api.Instr) bool {
	room := t.room()
	if !fit(l, &room) {
		return false
	}
	b, e := code.Encode(l)
	return e == api.OK && t.put(b...)
}

// fit tells whether room bytes may do for l, of which each instruction and each label needs at least one; it takes these away.
func fit(l []api.Instr, room *int) bool {
	for k := range l {
		*room -= 1 + len(l[k].Labels)
		if *room < 0 || !fit(l[k].Body, room) || !fit(l[k].Else, room) {
			return false
		}
	}
	return true
}

func (t *text) constant(i api.Instr) bool {
	return isConstant(i.Op) && t.expression([]api.Instr{i})
}

func (t *text) kind(kind int) bool {
	return kind >= api.KindFunc && kind <= api.KindGlobal && t.put(byte(kind))
}

func (t *text) funcType(f api.FuncType) bool {
	return len(f.Results) <= maxResults && t.put(funcMark) &&
		writeList(t, f.Params, (*text).valueType) &&
		writeList(t, f.Results, (*text).valueType)
}

func (t *text) imported(i api.Import) bool {
	return t.name(i.Module) && t.name(i.Name) && t.kind(i.Kind) && hasNoOther(i) && t.what(i)
}

// hasNoOther tells whether i has nothing of what imports of its kind have not.
func hasNoOther(i api.Import) bool {
	limited := i.Kind == api.KindTable || i.Kind == api.KindMemory
	if limited {
		return i.Type == 0 && !i.Mut
	}
	return i.Lim == api.Limits{} && (i.Kind == api.KindGlobal || !i.Mut)
}

// what writes what is imported.
func (t *text) what(i api.Import) bool {
	switch i.Kind {
	case api.KindFunc:
		return t.number(i.Type)
	case api.KindTable:
		return t.table(i.Lim)
	case api.KindMemory:
		return t.limits(i.Lim)
	}
	return t.valueType(i.Type) && t.flag(i.Mut)
}

// funcHead writes what section 3 has of a function.
func (t *text) funcHead(f api.Func) bool {
	return t.number(f.Type)
}

// funcBody writes what section 10 has of a function.
func (t *text) funcBody(f api.Func) bool {
	inner := &text{}
	return inner.locals(f.Locals) && inner.expression(f.Body) && t.bytes(inner.b)
}

func (t *text) locals(l []int) bool {
	if len(l) > api.MaxLocals {
		return false
	}
	groups := groupsOf(l)
	return t.number(len(groups)) && writeEach(t, groups, (*text).group)
}

// group is how many locals of one type stand side by side.
type group struct {
	count int
	kind  int
}

func groupsOf(locals []int) []group {
	var l []group
	for k, kind := range locals {
		if k == 0 || kind != locals[k-1] {
			l = append(l, group{kind: kind})
		}
		l[len(l)-1].count++
	}
	return l
}

func (t *text) group(g group) bool {
	return t.number(g.count) && t.valueType(g.kind)
}

func (t *text) global(g api.Global) bool {
	return t.valueType(g.Type) && t.flag(g.Mut) && t.constant(g.Init)
}

func (t *text) export(x api.Export) bool {
	return t.name(x.Name) && t.kind(x.Kind) && t.number(x.Index)
}

func (t *text) elem(x api.Elem) bool {
	return t.number(x.Table) && t.constant(x.Offset) && writeList(t, x.Funcs, (*text).number)
}

func (t *text) data(x api.Data) bool {
	return t.number(x.Memory) && t.constant(x.Offset) && t.bytes(x.Bytes)
}
