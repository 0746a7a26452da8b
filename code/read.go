package code

import (
	"gangway/api"
	"gangway/leb"
)

// reader reads one part of an instruction into it; false, if it is not there.
type reader func(i *api.Instr) bool

// place is where reading has come to, and how many blocks stand around it.
type place struct {
	b       []byte
	at      int
	deep    int
	readers [partCount]reader
}

// newPlace is the beginning of b; its readers are made once, not for each instruction.
func newPlace(b []byte) *place {
	p := &place{b: b}
	p.readers = [partCount]reader{
		partType:   p.blockType,
		partLabels: p.labels,
		partIndex:  p.index,
		partAlign:  p.align,
		partOffset: p.offset,
		partNought: p.nought,
		partVal:    p.val,
		partBody:   p.body,
		partElse:   p.otherwise,
		partEnd:    p.end,
	}
	return p
}

// list reads instructions, up to what cannot begin one: whoever calls says what must stand there.
func (p *place) list() ([]api.Instr, bool) {
	var l []api.Instr
	for p.at < len(p.b) && !p.next(opElse) && !p.next(opEnd) {
		l = append(l, api.Instr{})
		if !p.instr(&l[len(l)-1]) {
			return nil, false
		}
	}
	return l, true
}

// instr reads one instruction; there is at least its byte.
func (p *place) instr(i *api.Instr) bool {
	i.Op = int(p.b[p.at])
	p.at++
	s, ok := partsOf(i.Op)
	if !ok {
		return false
	}
	for k := range partCount {
		if s.has(k) && !p.readers[k](i) {
			return false
		}
	}
	return true
}

func (p *place) next(x byte) bool {
	return p.at < len(p.b) && p.b[p.at] == x
}

// fixed goes on behind the byte x, if that is the next one.
func (p *place) fixed(x byte) bool {
	if !p.next(x) {
		return false
	}
	p.at++
	return true
}

func (p *place) number(to *int) bool {
	v, n, e := leb.Uint(p.b[p.at:], shortBits)
	if e != api.OK {
		return false
	}
	*to = int(v)
	p.at += n
	return true
}

func (p *place) blockType(i *api.Instr) bool {
	if p.at == len(p.b) || !isType(int(p.b[p.at])) {
		return false
	}
	i.Type = int(p.b[p.at])
	p.at++
	return true
}

// labels makes no room ahead: how many there are to be is not to be believed before they are read.
func (p *place) labels(i *api.Instr) bool {
	count := 0
	if !p.number(&count) {
		return false
	}
	for range count {
		label := 0
		if !p.number(&label) {
			return false
		}
		i.Labels = append(i.Labels, label)
	}
	return true
}

func (p *place) index(i *api.Instr) bool {
	return p.number(&i.Index)
}

func (p *place) align(i *api.Instr) bool {
	return p.number(&i.Align)
}

func (p *place) offset(i *api.Instr) bool {
	return p.number(&i.Offset)
}

func (p *place) nought(*api.Instr) bool {
	return p.fixed(0)
}

func (p *place) val(i *api.Instr) bool {
	v, n, e := leb.Sint(p.b[p.at:], width(i.Op))
	if e != api.OK {
		return false
	}
	i.Val = v
	p.at += n
	return true
}

func (p *place) body(i *api.Instr) bool {
	return p.within(&i.Body)
}

func (p *place) otherwise(i *api.Instr) bool {
	return !p.fixed(opElse) || p.within(&i.Else)
}

func (p *place) end(*api.Instr) bool {
	return p.fixed(opEnd)
}

// within reads a block's instructions, unless too many blocks stand around them.
func (p *place) within(to *[]api.Instr) bool {
	if p.deep == api.MaxDeep {
		return false
	}
	p.deep++
	l, ok := p.list()
	p.deep--
	*to = l
	return ok
}
