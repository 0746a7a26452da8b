package module

import "gangway/api"

// sectionWriter writes what a section has of a module; nothing, if the section is to be left out.
type sectionWriter func(t *text, m *api.Module) bool

// sectionWriters tells each section's writer, by its id; of idCustom there is none.
func sectionWriters() [idCount]sectionWriter {
	return [idCount]sectionWriter{
		idTypes:    (*text).types,
		idImports:  (*text).imports,
		idFuncs:    (*text).funcHeads,
		idTables:   (*text).tables,
		idMemories: (*text).memories,
		idGlobals:  (*text).globals,
		idExports:  (*text).exports,
		idStart:    (*text).start,
		idElems:    (*text).elems,
		idBodies:   (*text).funcBodies,
		idDatas:    (*text).datas,
	}
}

// sections writes all of m that has a section.
func (t *text) sections(m *api.Module) bool {
	writers := sectionWriters()
	for id := idTypes; id < idCount; id++ {
		inner := &text{}
		if !writers[id](inner, m) {
			return false
		}
		if len(inner.b) > 0 && (!t.put(byte(id)) || !t.bytes(inner.b)) {
			return false
		}
	}
	return true
}

// writeSome writes a vector, but nothing at all for an empty one.
func writeSome[T any](t *text, l []T, write func(t *text, x T) bool) bool {
	return len(l) == 0 || writeList(t, l, write)
}

func (t *text) types(m *api.Module) bool {
	return writeSome(t, m.Types, (*text).funcType)
}

func (t *text) imports(m *api.Module) bool {
	return writeSome(t, m.Imports, (*text).imported)
}

func (t *text) funcHeads(m *api.Module) bool {
	return writeSome(t, m.Funcs, (*text).funcHead)
}

func (t *text) tables(m *api.Module) bool {
	return writeSome(t, m.Tables, (*text).table)
}

func (t *text) memories(m *api.Module) bool {
	return writeSome(t, m.Memories, (*text).limits)
}

func (t *text) globals(m *api.Module) bool {
	return writeSome(t, m.Globals, (*text).global)
}

func (t *text) exports(m *api.Module) bool {
	return writeSome(t, m.Exports, (*text).export)
}

func (t *text) start(m *api.Module) bool {
	return m.Start == noStart || t.number(m.Start)
}

func (t *text) elems(m *api.Module) bool {
	return writeSome(t, m.Elems, (*text).elem)
}

func (t *text) funcBodies(m *api.Module) bool {
	return writeSome(t, m.Funcs, (*text).funcBody)
}

func (t *text) datas(m *api.Module) bool {
	return writeSome(t, m.Datas, (*text).data)
}
