package module

import "gangway/api"

// draft is a module of which some sections have been read.
type draft struct {
	m      api.Module
	bodies []api.Func // what section 10 has of the functions; the rest of them section 3 has
}

// sectionReader reads what a section has; false, if it is of another form.
type sectionReader func(d *draft, p *place) bool

// sectionReaders tells each section's reader, by its id.
func sectionReaders() [idCount]sectionReader {
	return [idCount]sectionReader{
		idCustom:   (*draft).custom,
		idTypes:    (*draft).types,
		idImports:  (*draft).imports,
		idFuncs:    (*draft).funcHeads,
		idTables:   (*draft).tables,
		idMemories: (*draft).memories,
		idGlobals:  (*draft).globals,
		idExports:  (*draft).exports,
		idStart:    (*draft).start,
		idElems:    (*draft).elems,
		idBodies:   (*draft).funcBodies,
		idDatas:    (*draft).datas,
	}
}

// read reads a whole module.
func (d *draft) read(p *place) bool {
	for _, x := range []byte(header) {
		if !p.fixed(int(x)) {
			return false
		}
	}
	return d.sections(p) && d.join()
}

func (d *draft) sections(p *place) bool {
	readers := sectionReaders()
	last := idCustom
	for len(p.b) > 0 {
		id := 0
		if !p.byte(&id) || id >= idCount || id != idCustom && id <= last {
			return false
		}
		last = max(last, id)
		if !p.sized(func(inner *place) bool { return readers[id](d, inner) }) {
			return false
		}
	}
	return true
}

// join puts together what sections 3 and 10 have of each function.
func (d *draft) join() bool {
	if len(d.bodies) != len(d.m.Funcs) {
		return false
	}
	for k, f := range d.bodies {
		d.m.Funcs[k].Locals, d.m.Funcs[k].Body = f.Locals, f.Body
	}
	return true
}

// custom goes on behind all that follows the name: it may be anything.
func (d *draft) custom(p *place) bool {
	name := ""
	if !p.name(&name) {
		return false
	}
	p.b = nil
	return true
}

func (d *draft) types(p *place) bool {
	return readList(p, &d.m.Types, (*place).funcType)
}

func (d *draft) imports(p *place) bool {
	return readList(p, &d.m.Imports, (*place).imported)
}

func (d *draft) funcHeads(p *place) bool {
	return readList(p, &d.m.Funcs, (*place).funcHead)
}

func (d *draft) tables(p *place) bool {
	return readList(p, &d.m.Tables, (*place).table)
}

func (d *draft) memories(p *place) bool {
	return readList(p, &d.m.Memories, (*place).limits)
}

func (d *draft) globals(p *place) bool {
	return readList(p, &d.m.Globals, (*place).global)
}

func (d *draft) exports(p *place) bool {
	return readList(p, &d.m.Exports, (*place).export)
}

func (d *draft) start(p *place) bool {
	return p.number(&d.m.Start)
}

func (d *draft) elems(p *place) bool {
	return readList(p, &d.m.Elems, (*place).elem)
}

func (d *draft) funcBodies(p *place) bool {
	return readList(p, &d.bodies, (*place).funcBody)
}

func (d *draft) datas(p *place) bool {
	return readList(p, &d.m.Datas, (*place).data)
}
