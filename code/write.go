package code

import (
	"gangway/api"
	"gangway/leb"
)

// writer writes one part of an instruction.
type writer func(i *api.Instr)

// text is what has been written.
type text struct {
	b       []byte
	writers [partCount]writer
}

// newText is empty; its writers stand as a place's readers do.
func newText() *text {
	t := &text{}
	t.writers = [partCount]writer{
		partType:   t.blockType,
		partLabels: t.labels,
		partIndex:  t.index,
		partAlign:  t.align,
		partOffset: t.offset,
		partNought: t.nought,
		partVal:    t.val,
		partBody:   t.body,
		partElse:   t.otherwise,
		partEnd:    t.end,
	}
	return t
}

// list writes l, which are known to be instructions.
func (t *text) list(l []api.Instr) {
	for k := range l {
		t.instr(&l[k])
	}
}

func (t *text) instr(i *api.Instr) {
	t.fixed(byte(i.Op))
	s, _ := partsOf(i.Op)
	for k := range partCount {
		if s.has(k) {
			t.writers[k](i)
		}
	}
}

func (t *text) fixed(x byte) {
	t.b = append(t.b, x)
}

func (t *text) number(v int) {
	t.b = append(t.b, leb.PutUint(uint64(v))...)
}

func (t *text) blockType(i *api.Instr) {
	t.fixed(byte(i.Type))
}

func (t *text) labels(i *api.Instr) {
	t.number(len(i.Labels))
	for _, label := range i.Labels {
		t.number(label)
	}
}

func (t *text) index(i *api.Instr) {
	t.number(i.Index)
}

func (t *text) align(i *api.Instr) {
	t.number(i.Align)
}

func (t *text) offset(i *api.Instr) {
	t.number(i.Offset)
}

func (t *text) nought(*api.Instr) {
	t.fixed(0)
}

func (t *text) val(i *api.Instr) {
	t.b = append(t.b, leb.PutSint(i.Val)...)
}

func (t *text) body(i *api.Instr) {
	t.list(i.Body)
}

func (t *text) otherwise(i *api.Instr) {
	if len(i.Else) > 0 {
		t.fixed(opElse)
		t.list(i.Else)
	}
}

func (t *text) end(*api.Instr) {
	t.fixed(opEnd)
}
