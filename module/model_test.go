package module

import (
	"math/rand"
	"reflect"
	"slices"
	"unicode/utf8"

	"gangway/api"
	"gangway/code"
	"gangway/leb"
)

type in = api.Instr

// same tells whether two things are one, a nil list and an empty one too.
func same(a, b any) bool {
	return sameValue(reflect.ValueOf(a), reflect.ValueOf(b))
}

func sameValue(a, b reflect.Value) bool {
	switch a.Kind() {
	case reflect.Slice:
		if a.Len() != b.Len() {
			return false
		}
		for k := range a.Len() {
			if !sameValue(a.Index(k), b.Index(k)) {
				return false
			}
		}
		return true
	case reflect.Struct:
		for k := range a.NumField() {
			if !sameValue(a.Field(k), b.Field(k)) {
				return false
			}
		}
		return true
	}
	return a.Equal(b)
}

// model reads b by the chapter's words, one after the other; what is wrong panics.
type model struct {
	b []byte
}

func must(ok bool) {
	if !ok {
		panic("no module")
	}
}

func (m *model) byte() int {
	x := m.b[0]
	m.b = m.b[1:]
	return int(x)
}

func (m *model) number() int {
	v, n, e := leb.Uint(m.b, 32)
	must(e == api.OK)
	m.b = m.b[n:]
	return int(v)
}

func (m *model) bytes() []byte {
	n := m.number()
	must(n <= len(m.b))
	x := m.b[:n]
	m.b = m.b[n:]
	return x
}

func (m *model) name() string {
	x := m.bytes()
	must(utf8.Valid(x))
	return string(x)
}

func (m *model) kind() int {
	x := m.byte()
	must(x == 0x7f || x == 0x7e)
	return x
}

func (m *model) mut() bool {
	x := m.byte()
	must(x == 0 || x == 1)
	return x == 1
}

func (m *model) limits() api.Limits {
	switch m.byte() {
	case 0:
		return api.Limits{Min: m.number(), Max: -1}
	case 1:
		least := m.number()
		return api.Limits{Min: least, Max: m.number()}
	}
	panic("no limits")
}

func (m *model) table() api.Limits {
	must(m.byte() == 0x70)
	return m.limits()
}

func (m *model) expression() []in {
	l, n, e := code.Decode(m.b)
	must(e == api.OK)
	m.b = m.b[n:]
	return l
}

func (m *model) constant() in {
	l := m.expression()
	must(len(l) == 1)
	must(l[0].Op == 0x41 || l[0].Op == 0x42 || l[0].Op == 0x23)
	return l[0]
}

func vector[T any](m *model, item func() T) (l []T) {
	n := m.number()
	must(n <= 128)
	for range n {
		l = append(l, item())
	}
	return l
}

func (m *model) funcType() (f api.FuncType) {
	must(m.byte() == 0x60)
	f.Params = vector(m, m.kind)
	f.Results = vector(m, m.kind)
	must(len(f.Results) <= 1)
	return f
}

func (m *model) imported() (i api.Import) {
	i.Module = m.name()
	i.Name = m.name()
	i.Kind = m.byte()
	switch i.Kind {
	case 0:
		i.Type = m.number()
	case 1:
		i.Lim = m.table()
	case 2:
		i.Lim = m.limits()
	case 3:
		i.Type = m.kind()
		i.Mut = m.mut()
	default:
		panic("no kind")
	}
	return i
}

func (m *model) global() (g api.Global) {
	g.Type = m.kind()
	g.Mut = m.mut()
	g.Init = m.constant()
	return g
}

func (m *model) export() (x api.Export) {
	x.Name = m.name()
	x.Kind = m.byte()
	must(x.Kind < 4)
	x.Index = m.number()
	return x
}

func (m *model) elem() (x api.Elem) {
	x.Table = m.number()
	x.Offset = m.constant()
	x.Funcs = vector(m, m.number)
	return x
}

func (m *model) data() (x api.Data) {
	x.Memory = m.number()
	x.Offset = m.constant()
	x.Bytes = m.bytes()
	return x
}

func (m *model) body() (f api.Func) {
	inner := &model{m.bytes()}
	for n := inner.number(); n > 0; n-- {
		count := inner.number()
		kind := inner.kind()
		must(len(f.Locals)+count <= 64)
		f.Locals = append(f.Locals, slices.Repeat([]int{kind}, count)...)
	}
	f.Body = inner.expression()
	must(len(inner.b) == 0)
	return f
}

// wanted is what P6.1 has Decode tell.
func wanted(b []byte) (m api.Module, e api.Errno) {
	defer func() {
		if recover() != nil {
			m, e = api.Module{}, api.ErrForm
		}
	}()
	must(len(b) <= 65536)
	must(string(b[:8]) == "\x00asm\x01\x00\x00\x00")
	m.Start = -1
	var bodies []api.Func
	last := 0
	for r := (&model{b[8:]}); len(r.b) > 0; {
		id := r.byte()
		s := &model{r.bytes()}
		must(id == 0 || id > last)
		last = max(last, id)
		switch id {
		case 0:
			s.name()
			s.b = nil
		case 1:
			m.Types = vector(s, s.funcType)
		case 2:
			m.Imports = vector(s, s.imported)
		case 3:
			m.Funcs = vector(s, func() api.Func { return api.Func{Type: s.number()} })
		case 4:
			m.Tables = vector(s, s.table)
		case 5:
			m.Memories = vector(s, s.limits)
		case 6:
			m.Globals = vector(s, s.global)
		case 7:
			m.Exports = vector(s, s.export)
		case 8:
			m.Start = s.number()
		case 9:
			m.Elems = vector(s, s.elem)
		case 10:
			bodies = vector(s, s.body)
		case 11:
			m.Datas = vector(s, s.data)
		default:
			panic("no section")
		}
		must(len(s.b) == 0)
	}
	must(len(bodies) == len(m.Funcs))
	for k, f := range bodies {
		f.Type = m.Funcs[k].Type
		m.Funcs[k] = f
	}
	return m, api.OK
}

// pen writes modules by the chapter's words: the one way Encode has; or, with r, some other way that Decode must take, too.
type pen struct {
	r *rand.Rand
}

func (w pen) sometimes() bool {
	return w.r != nil && w.r.Intn(3) == 0
}

func (w pen) number(v int) []byte {
	b := leb.PutUint(uint64(v))
	for w.sometimes() && len(b) < 5 {
		b[len(b)-1] |= 0x80
		b = append(b, 0)
	}
	return b
}

func (w pen) bytes(b []byte) []byte {
	return append(w.number(len(b)), b...)
}

func (w pen) limits(l api.Limits) []byte {
	if l.Max < 0 {
		return append([]byte{0}, w.number(l.Min)...)
	}
	return slices.Concat([]byte{1}, w.number(l.Min), w.number(l.Max))
}

func (w pen) expression(l ...in) []byte {
	b, e := code.Encode(l)
	must(e == api.OK)
	return b
}

func flag(set bool) byte {
	if set {
		return 1
	}
	return 0
}

func list[T any](w pen, l []T, item func(x T) []byte) []byte {
	b := w.number(len(l))
	for _, x := range l {
		b = append(b, item(x)...)
	}
	return b
}

func (w pen) kinds(l []int) []byte {
	return list(w, l, func(x int) []byte { return []byte{byte(x)} })
}

func (w pen) funcType(f api.FuncType) []byte {
	return slices.Concat([]byte{0x60}, w.kinds(f.Params), w.kinds(f.Results))
}

func (w pen) imported(i api.Import) []byte {
	b := slices.Concat(w.bytes([]byte(i.Module)), w.bytes([]byte(i.Name)), []byte{byte(i.Kind)})
	switch i.Kind {
	case 0:
		return append(b, w.number(i.Type)...)
	case 1:
		return append(append(b, 0x70), w.limits(i.Lim)...)
	case 2:
		return append(b, w.limits(i.Lim)...)
	}
	return append(b, byte(i.Type), flag(i.Mut))
}

func (w pen) locals(l []int) []byte {
	var b []byte
	groups := 0
	group := func(n, kind int) {
		b = append(append(b, w.number(n)...), byte(kind))
		groups++
	}
	for len(l) > 0 {
		for w.sometimes() {
			group(0, api.I32+w.r.Intn(2)-1)
		}
		n := 1
		for n < len(l) && l[n] == l[0] && !w.sometimes() {
			n++
		}
		group(n, l[0])
		l = l[n:]
	}
	return append(w.number(groups), b...)
}

func (w pen) body(f api.Func) []byte {
	return w.bytes(append(w.locals(f.Locals), w.expression(f.Body...)...))
}

func (w pen) module(m api.Module) []byte {
	b := []byte("\x00asm\x01\x00\x00\x00")
	put := func(id byte, empty bool, s []byte) {
		for w.sometimes() {
			b = append(append(b, 0), w.bytes([]byte{2, 0xc3, 0xa9, 0xff, byte(w.r.Intn(256))})...)
		}
		if !empty || id != 8 && w.sometimes() {
			b = append(append(b, id), w.bytes(s)...)
		}
	}
	put(1, len(m.Types) == 0, list(w, m.Types, w.funcType))
	put(2, len(m.Imports) == 0, list(w, m.Imports, w.imported))
	put(3, len(m.Funcs) == 0, list(w, m.Funcs, func(f api.Func) []byte { return w.number(f.Type) }))
	put(4, len(m.Tables) == 0, list(w, m.Tables, func(l api.Limits) []byte { return append([]byte{0x70}, w.limits(l)...) }))
	put(5, len(m.Memories) == 0, list(w, m.Memories, w.limits))
	put(6, len(m.Globals) == 0, list(w, m.Globals, func(g api.Global) []byte {
		return append([]byte{byte(g.Type), flag(g.Mut)}, w.expression(g.Init)...)
	}))
	put(7, len(m.Exports) == 0, list(w, m.Exports, func(x api.Export) []byte {
		return slices.Concat(w.bytes([]byte(x.Name)), []byte{byte(x.Kind)}, w.number(x.Index))
	}))
	put(8, m.Start < 0, w.number(max(m.Start, 0)))
	put(9, len(m.Elems) == 0, list(w, m.Elems, func(x api.Elem) []byte {
		return slices.Concat(w.number(x.Table), w.expression(x.Offset), list(w, x.Funcs, w.number))
	}))
	put(10, len(m.Funcs) == 0, list(w, m.Funcs, w.body))
	put(11, len(m.Datas) == 0, list(w, m.Datas, func(x api.Data) []byte {
		return slices.Concat(w.number(x.Memory), w.expression(x.Offset), w.bytes(x.Bytes))
	}))
	return b
}

// maker makes modules, the same in each run.
type maker struct {
	r *rand.Rand
}

func newMaker(seed int64) maker {
	return maker{rand.New(rand.NewSource(seed))}
}

func some[T any](k maker, most int, item func() T) (l []T) {
	if k.r.Intn(4) == 0 {
		return nil
	}
	for range k.r.Intn(most + 1) {
		l = append(l, item())
	}
	return l
}

func (k maker) number() int {
	return int(k.r.Uint32() >> k.r.Intn(33))
}

func (k maker) kind() int {
	return api.I64 + k.r.Intn(2)
}

func (k maker) name() string {
	return []string{"", "a", "_start", "fd_write", "é", "€\x00", "\U0010ffff"}[k.r.Intn(7)]
}

func (k maker) limits() api.Limits {
	if k.r.Intn(2) == 0 {
		return api.Limits{Min: k.number(), Max: -1}
	}
	return api.Limits{Min: k.number(), Max: k.number()}
}

func (k maker) constant() in {
	switch k.r.Intn(3) {
	case 0:
		return in{Op: 0x41, Val: int64(int32(k.r.Uint32())) >> k.r.Intn(33)}
	case 1:
		return in{Op: 0x42, Val: int64(k.r.Uint64()) >> k.r.Intn(65)}
	}
	return in{Op: 0x23, Index: k.number()}
}

func (k maker) instr() in {
	switch k.r.Intn(6) {
	case 0:
		return in{Op: 0x02, Type: api.None, Body: some(k, 2, k.instr)}
	case 1:
		return in{Op: 0x04, Type: k.kind(), Body: some(k, 2, k.instr), Else: some(k, 1, k.instr)}
	case 2:
		return in{Op: 0x0e, Labels: some(k, 3, k.number), Index: k.number()}
	case 3:
		return in{Op: 0x28, Align: k.number(), Offset: k.number()}
	case 4:
		return in{Op: 0x6a}
	}
	return k.constant()
}

func (k maker) imported() api.Import {
	i := api.Import{Module: k.name(), Name: k.name(), Kind: k.r.Intn(4)}
	switch i.Kind {
	case 0:
		i.Type = k.number()
	case 1, 2:
		i.Lim = k.limits()
	case 3:
		i.Type, i.Mut = k.kind(), k.r.Intn(2) == 0
	}
	return i
}

func (k maker) module() api.Module {
	m := api.Module{Start: -1}
	if k.r.Intn(2) == 0 {
		m.Start = k.number()
	}
	m.Types = some(k, 3, func() api.FuncType {
		return api.FuncType{Params: some(k, 4, k.kind), Results: some(k, 1, k.kind)}
	})
	m.Imports = some(k, 3, k.imported)
	m.Funcs = some(k, 3, func() api.Func {
		return api.Func{Type: k.number(), Locals: some(k, 6, k.kind), Body: some(k, 4, k.instr)}
	})
	m.Tables = some(k, 2, k.limits)
	m.Memories = some(k, 2, k.limits)
	m.Globals = some(k, 2, func() api.Global {
		return api.Global{Type: k.kind(), Mut: k.r.Intn(2) == 0, Init: k.constant()}
	})
	m.Exports = some(k, 3, func() api.Export {
		return api.Export{Name: k.name(), Kind: k.r.Intn(4), Index: k.number()}
	})
	m.Elems = some(k, 2, func() api.Elem {
		return api.Elem{Table: k.number(), Offset: k.constant(), Funcs: some(k, 3, k.number)}
	})
	m.Datas = some(k, 2, func() api.Data {
		return api.Data{Memory: k.number(), Offset: k.constant(), Bytes: some(k, 5, func() byte { return byte(k.r.Intn(256)) })}
	})
	return m
}
