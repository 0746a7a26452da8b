package code

import "gangway/api"

// areInstrs tells whether l are instructions with deep blocks around them.
func areInstrs(l []api.Instr, deep int) bool {
	for k := range l {
		if !isInstr(&l[k], deep) {
			return false
		}
	}
	return true
}

func isInstr(i *api.Instr, deep int) bool {
	s, ok := partsOf(i.Op)
	if !ok || filled(i)&^s != 0 || !inRange(i) {
		return false
	}
	if !s.has(partBody) {
		return true
	}
	return isType(i.Type) && deep < api.MaxDeep && areInstrs(i.Body, deep+1) && areInstrs(i.Else, deep+1)
}

// filled tells the parts of which i has something.
func filled(i *api.Instr) parts {
	s := parts(0)
	add := func(p part, there bool) {
		if there {
			s |= of(p)
		}
	}
	add(partType, i.Type != 0)
	add(partLabels, len(i.Labels) > 0)
	add(partIndex, i.Index != 0)
	add(partAlign, i.Align != 0)
	add(partOffset, i.Offset != 0)
	add(partVal, i.Val != 0)
	add(partBody, len(i.Body) > 0)
	add(partElse, len(i.Else) > 0)
	return s
}

// inRange tells whether i's numbers are; those that it does not have are 0, which always is.
func inRange(i *api.Instr) bool {
	for _, label := range i.Labels {
		if !isNumber(label) {
			return false
		}
	}
	beyond := i.Val >> (width(i.Op) - 1)
	return isNumber(i.Index) && isNumber(i.Align) && isNumber(i.Offset) && (beyond == 0 || beyond == -1)
}

// isNumber tells whether v is an unsigned number of 32 bits.
func isNumber(v int) bool {
	return uint64(v)>>shortBits == 0
}
